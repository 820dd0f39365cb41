/-
  Tokens held against tokens among the arguments; bytes; Quote.
-/
import Derived.Test.YtghibofnfjnfcaaGreatDoorShort
namespace Go.Proofs.YtghibofnfjnfcaaGreatDoor
set_option linter.unusedVariables false
open Go.RowKit

set_option maxHeartbeats 2000000 in
theorem sameI_yes {va vb : Value} {l : List TkI} {w : World} (ha : TkIn w va l) (hb : TkIn w vb l) (hl : l.length ≤ 100000000) :
    Calls Tryz.prog 29 #[va, vb, .func (.func 30) #[] #[]] w fun e w' => e = .returned (.bool true) ∧ Below w.heap.size w w' := by
  obtain ⟨aa, ca, ea⟩ := ha.shape
  obtain ⟨ab, cb, eb⟩ := hb.shape
  subst ea eb
  obtain ⟨ba, oa, hca⟩ := ha.at
  obtain ⟨bb, ob, hcb⟩ := hb.at
  have CA := Lib.hid hca
  have CB := Lib.hid hcb
  clear ha hb hca hcb
  go_enter Tryz.func29, Tryz.ntmps29
  go_wp2_with fail
  go_loopw [7] (fun i wr => ∃ k : Nat, k ≤ l.length ∧ i = .int .i64 k ∧ Below w.heap.size w wr) (fun i _ => l.length - (intOf i).toNat)
  case atStart => exact ⟨0, Nat.zero_le _, rfl, Below.refl _ _⟩
  case round =>
    obtain ⟨k, hk, rfl, hst⟩ := hrel
    by_cases hka : k < l.length
    · obtain ⟨rfl, hba, hca⟩ := CA.out k hka
      obtain ⟨rfl, hbb, hcb⟩ := CB.out k hka
      have c1 : wr.cell? ⟨ba, oa + k * 2, none⟩ = some (.int .i64 l[k].1) := (hst.cell (p := ⟨ba, oa + k * 2, none⟩) hba).trans hca.1
      have c2 : wr.cell? ⟨ba, oa + k * 2 + 1, none⟩ = some (.string (strN l[k].2)) := (hst.cell (p := ⟨ba, oa + k * 2 + 1, none⟩) hba).trans hca.2
      have c3 : wr.cell? ⟨bb, ob + k * 2, none⟩ = some (.int .i64 l[k].1) := (hst.cell (p := ⟨bb, ob + k * 2, none⟩) hbb).trans hcb.1
      have c4 : wr.cell? ⟨bb, ob + k * 2 + 1, none⟩ = some (.string (strN l[k].2)) := (hst.cell (p := ⟨bb, ob + k * 2 + 1, none⟩) hbb).trans hcb.2
      have hbs := hst.size
      clear hca hcb
      generalize l[k].1 = x1 at *
      generalize strN l[k].2 = x2 at *
      go_wp2_with fail
      go_region_held3 (fun w' => w'.cell? ⟨ba, oa + k * 2, none⟩ = some (.int .i64 x1) ∧ w'.cell? ⟨ba, oa + k * 2 + 1, none⟩ = some (.string x2) ∧ w'.cell? ⟨bb, ob + k * 2, none⟩ = some (.int .i64 x1) ∧ w'.cell? ⟨bb, ob + k * 2 + 1, none⟩ = some (.string x2))
        (first | with_reducible exact kb | with_reducible exact ⟨c1, c2, c3, c4⟩ | go_keep)
        ((go_at_call 30; refine (eqT_yes x1 x2 _).mono ?_; rintro e w2 ⟨rfl, hb2⟩; have HB : Hid (Below wr.heap.size wr w2) := Lib.hid ((Below.refl _ _).drew.trans hb2); have kb : w2.cell? ⟨ba, oa + k * 2, none⟩ = some (.int .i64 x1) ∧ w2.cell? ⟨ba, oa + k * 2 + 1, none⟩ = some (.string x2) ∧ w2.cell? ⟨bb, ob + k * 2, none⟩ = some (.int .i64 x1) ∧ w2.cell? ⟨bb, ob + k * 2 + 1, none⟩ = some (.string x2) := ⟨(HB.out.cell (p := ⟨ba, oa + k * 2, none⟩) (by show ba < _; omega)).trans c1, (HB.out.cell (p := ⟨ba, oa + k * 2 + 1, none⟩) (by show ba < _; omega)).trans c2, (HB.out.cell (p := ⟨bb, ob + k * 2, none⟩) (by show bb < _; omega)).trans c3, (HB.out.cell (p := ⟨bb, ob + k * 2 + 1, none⟩) (by show bb < _; omega)).trans c4⟩; clear hb2))
      go_wp2_with fail
      go_roundw
      case rel => exact ⟨k + 1, by omega, by go_num, hst.trans (HB.out.mono hbs)⟩
      case measure => simp [intOf]; omega
    · obtain rfl : k = l.length := by omega
      go_wp2_with fail
      go_ret
      exact ⟨rfl, hst⟩

theorem plainI_yes {va vb : Value} {l : List TkI} {w : World} (ha : TkIn w va l) (hb : TkIn w vb l) (hl : l.length ≤ 100000000) :
    Calls Tryz.prog 17 #[va, vb] w fun e w' => e = .returned (.bool true) ∧ Below w.heap.size w w' := by
  go_enter Tryz.func17, Tryz.ntmps17
  go_wp2_with fail
  refine (sameI_yes ha hb hl).mono ?_
  rintro e w1 ⟨rfl, hst⟩
  go_wp2_with fail
  go_ret
  exact ⟨rfl, hst⟩
theorem bytes_yes {va vb : Value} {l : List Nat} {w : World} (ha : RowB w va l) (hb : RowB w vb l) : Calls Tryz.prog 10 #[va, vb] w fun e w' => e = .returned (.bool true) ∧ w = w' := by
  have h1 := run_str ha
  have h2 := run_str hb
  clear ha hb
  go_enter Tryz.func10, Tryz.ntmps10
  go_wp2_with fail
  go_ret
  exact ⟨ret_eq (by simp), rfl⟩
theorem quote_any (T : List Nat) (hT : ∀ c ∈ T, c < 256) (hn : T.length ≤ 140737488351232) (w : World) :
    Calls Tryz.prog 13 #[.string (strN T)] w fun e w' => e = .returned (.agg #[.int .i64 (if quoL T then 2 else 3), .string (strN T)]) ∧ Below w.heap.size w w' := by
  have HQ := Lib.hid (fun W => quotable_any T hT hn W)
  clear hT
  cases hq : quoL T with
  | true =>
    rw [hq] at HQ
    clear hq
    go_enter Tryz.func13, Tryz.ntmps13
    go_wp2_with (go_at_call 26; refine (HQ.out _).mono ?_; rintro e w2 ⟨rfl, rfl⟩)
    refine bodyPost_ret (v := .agg #[.int .i64 2, .string (strN T)]) (by simp [results, Tryz.results13, go_sem]) rfl ?_
    exact ⟨by first | rfl | simp, (Below.refl _ _).alloc (Nat.le_refl _) _⟩
  | false =>
    rw [hq] at HQ
    clear hq
    go_enter Tryz.func13, Tryz.ntmps13
    go_wp2_with (go_at_call 26; refine (HQ.out _).mono ?_; rintro e w2 ⟨rfl, rfl⟩)
    refine bodyPost_ret (v := .agg #[.int .i64 3, .string (strN T)]) (by simp [results, Tryz.results13, go_sem]) rfl ?_
    exact ⟨by first | rfl | simp, (Below.refl _ _).alloc (Nat.le_refl _) _⟩

/-! what is right, in plain words -/
theorem right_kinds {t : Tk} (h : rightT t = true) : 1 ≤ t.1 ∧ t.1 ≤ 8 := by
  unfold rightT at h
  split at h
  · omega
  split at h
  · omega
  split at h
  · omega
  split at h
  · omega
  · cases h
theorem nrm_int {t : Tk} (h : rightT t = true) : nrm (intT t) = t := by
  obtain ⟨h1, h2⟩ := right_kinds h
  obtain ⟨k, s⟩ := t
  unfold nrm intT
  rw [show kdN ((k, s).1 : Nat) = k from kdN_nat h1 h2]
theorem int_nrm {t : TkI} (h : rightT (nrm t) = true) : intT (nrm t) = t := by
  obtain ⟨h1, h2⟩ := right_kinds h
  obtain ⟨z, s⟩ := t
  have : kdN z ≠ 0 := by have : 1 ≤ kdN z := h1; omega
  have hz := kdN_eq (z := z) rfl this
  show ((kdN z : Int), s) = (z, s)
  rw [← hz]
theorem print_right {l : List Tk} {x : List Nat} (h : printL l = some x) : (∀ t ∈ l, rightT t = true) ∧ x = l.flatMap showT := by
  unfold printL at h
  split at h
  · rename_i hc
    exact ⟨fun t ht => List.all_eq_true.1 ((Bool.and_eq_true _ _).mp hc).1 t ht, (Option.some.inj h).symm⟩
  · cases h
theorem esc_mem {t : List Nat} {c : Nat} (h : c ∈ t) : c ∈ escL t := by
  unfold escL
  refine List.mem_flatMap.2 ⟨c, h, ?_⟩
  split <;> simp
theorem show_mem {t : Tk} (h : rightT t = true) {c : Nat} (hc : c ∈ t.2) : c ∈ showT t := by
  obtain ⟨k, s⟩ := t
  simp only at hc
  unfold rightT at h
  unfold showT
  simp only at h ⊢
  by_cases h2 : k = 2
  · rw [if_pos h2]; simp [esc_mem hc]
  rw [if_neg h2]
  by_cases h3 : k = 3
  · rw [if_pos h3]; simp [hc]
  rw [if_neg h3]
  by_cases h48 : 4 ≤ k ∧ k ≤ 8
  · rw [if_neg (by omega), if_neg h2, if_neg h3, if_pos h48] at h
    cases s with
    | nil => cases hc
    | cons a r => cases h
  · rw [if_neg (by omega), if_neg (by omega), if_neg (by omega), if_neg (by omega), if_neg (by omega)]; exact hc
theorem show_ge {t : Tk} (h : rightT t = true) : t.2.length ≤ (showT t).length := by
  obtain ⟨k, s⟩ := t
  unfold rightT at h
  unfold showT
  simp only at h ⊢
  have he := escL_len s
  by_cases h2 : k = 2
  · rw [if_pos h2]; simp; omega
  rw [if_neg h2]
  by_cases h3 : k = 3
  · rw [if_pos h3]; simp; omega
  rw [if_neg h3]
  by_cases h48 : 4 ≤ k ∧ k ≤ 8
  · rw [if_neg (by omega), if_neg h2, if_neg h3, if_pos h48] at h
    cases s with
    | nil => simp
    | cons a r => cases h
  · rw [if_neg (by omega), if_neg (by omega), if_neg (by omega), if_neg (by omega), if_neg (by omega)]; omega
theorem flat_ge {l : List Tk} {t : Tk} (h : t ∈ l) : (showT t).length ≤ (l.flatMap showT).length := by
  induction l with
  | nil => cases h
  | cons a l ih =>
    rw [List.flatMap_cons, List.length_append]
    rcases List.mem_cons.1 h with rfl | h
    · omega
    · have := ih h; omega
theorem map_nrm_int {l : List Tk} (h : ∀ t ∈ l, rightT t = true) : (l.map intT).map nrm = l := by
  rw [List.map_map]
  conv => rhs; rw [← List.map_id l]
  exact List.map_congr_left fun t ht => nrm_int (h t ht)
theorem map_int_nrm {l : List TkI} (h : ∀ t ∈ l.map nrm, rightT t = true) : (l.map nrm).map intT = l := by
  rw [List.map_map]
  conv => rhs; rw [← List.map_id l]
  exact List.map_congr_left fun t ht => int_nrm (h _ (List.mem_map.2 ⟨t, ht, rfl⟩))
/-- a text, quoted, is printed -/
def quoT (T : List Nat) : Tk := (if quoL T then 2 else 3, T)
theorem quot_print {T : List Nat} (hl : T.length ≤ 2000) (hz : ∀ c ∈ T, c ≠ 0) : printL [quoT T] = some (showT (quoT T)) := by
  have hr : rightT (quoT T) = true := by
    unfold quoT rightT
    cases hq : quoL T with
    | true => simp
    | false =>
      simp only [Bool.false_eq_true, if_false]
      rw [if_neg (by decide), if_neg (by decide), if_pos trivial]
      unfold litL
      rw [decide_eq_true (by omega)]
      simp only [Bool.true_and]
      exact List.all_eq_true.2 fun c hc => by simpa using hz c hc
  unfold printL
  rw [if_pos]
  · simp
  · simp [hr, apartL]
end Go.Proofs.YtghibofnfjnfcaaGreatDoor
