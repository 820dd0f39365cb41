/-
  The walk of DiskApart.
-/
import Derived.Test.YtgdfobhhkfplbaaSafeWalk
namespace Go.Proofs.Ytgdfobhhkfplbaa
set_option linter.unusedVariables false
open Go.RowKit

theorem shown_snoc (S : List (List Nat)) (W : List (Nat × List Nat)) (x : Nat × List Nat) (a : Nat) : shown S (W ++ [x]) a = if x.1 = a then x.2 else shown S W a := by
  unfold shown
  rw [lastIdx_snoc]
  by_cases h : x.1 = a
  · simp [h]
  · simp only [if_neg h]
    cases hl : lastIdx W a with
    | none => rfl
    | some i =>
      obtain ⟨hi, _⟩ := lastIdx_some hl
      simp [List.getElem?_append_left hi]
theorem flushed_snoc (S : List (List Nat)) (W : List (Nat × List Nat)) (x : Nat × List Nat) : flushed S (W ++ [x]) = putN (flushed S W) x.1 64 x.2 := by simp [flushed]
theorem flushed_len (S : List (List Nat)) (W : List (Nat × List Nat)) : (flushed S W).length = S.length := by
  unfold flushed
  induction W generalizing S with
  | nil => rfl
  | cons x r ih => rw [List.foldl_cons, ih, putN_len]
theorem flushed_lay {S : List (List Nat)} : ∀ (W : List (Nat × List Nat)), (∀ s ∈ S, s.length = 64) → (∀ s ∈ S, ∀ n ∈ s, n < 256) → (∀ x ∈ W, x.2.length = 64) → (∀ x ∈ W, ∀ n ∈ x.2, n < 256) → (∀ x ∈ W, x.1 < S.length) → Lay S (flushed S W) := by
  suffices h : ∀ (W : List (Nat × List Nat)) (T : List (List Nat)), Lay S T → (∀ x ∈ W, x.2.length = 64) → (∀ x ∈ W, ∀ n ∈ x.2, n < 256) → (∀ x ∈ W, x.1 < S.length) → Lay S (flushed T W) from
    fun W h1 h2 h3 h4 h5 => h W S ⟨rfl, h1, h2⟩ h3 h4 h5
  intro W
  induction W with
  | nil => intro T hT _ _ _; exact hT
  | cons x r ih =>
    intro T hT h3 h4 h5
    exact ih _ (hT.put (h5 x (by simp)) (Nat.le_refl _) (h3 x (by simp)) (h4 x (by simp))) (fun y hy => h3 y (by simp [hy])) (fun y hy => h4 y (by simp [hy])) (fun y hy => h5 y (by simp [hy]))
/-- a flush shows what was shown -/
theorem flushed_shown {S : List (List Nat)} (W : List (Nat × List Nat)) (h64 : ∀ s ∈ S, s.length = 64) (hw : ∀ x ∈ W, x.2.length = 64) (hat : ∀ x ∈ W, x.1 < S.length) : ∀ a, a < S.length → (flushed S W).getD a [] = shown S W a := by
  suffices h : ∀ V : List (Nat × List Nat), (∀ x ∈ V, x.2.length = 64) → (∀ x ∈ V, x.1 < S.length) → ∀ a, a < S.length → (flushed S V).getD a [] = shown S V a ∧ (shown S V a).length = 64 from fun a ha => (h W hw hat a ha).1
  intro V
  induction hr : V.reverse generalizing V with
  | nil =>
    obtain rfl : V = [] := by simpa using hr
    intro _ _ a ha
    refine ⟨(shown_nil S a).symm, ?_⟩
    rw [shown_nil, List.getD_eq_getElem?_getD, List.getElem?_eq_getElem ha]
    exact h64 _ (List.getElem_mem ha)
  | cons x r ih =>
    obtain rfl : V = r.reverse ++ [x] := by rw [← List.reverse_reverse V, hr]; simp
    intro h1 h2 a ha
    obtain ⟨i1, i2⟩ := ih r.reverse (by simp) (fun y hy => h1 y (by simp at hy; simp [hy])) (fun y hy => h2 y (by simp at hy; simp [hy])) a ha
    have hx64 := h1 x (by simp)
    rw [flushed_snoc, shown_snoc]
    by_cases e : x.1 = a
    · subst e
      rw [if_pos rfl]
      refine ⟨?_, hx64⟩
      rw [putN_getD (by rw [flushed_len]; exact ha), i1, List.take_of_length_le (by omega), List.drop_of_length_le (by omega), List.append_nil]
    · rw [if_neg e]
      refine ⟨?_, i2⟩
      rw [← i1]
      simp [putN, List.getD_eq_getElem?_getD, List.getElem?_set_ne e]

/-- a number by 8 -/
theorem mod8 (x : Int) : ∃ a : Nat, a < 8 ∧ wrap64 ((IntKind.u64.wrap x).tmod 8) = (a : Int) := by
  have h0 : 0 ≤ IntKind.u64.wrap x := by rw [IntKind.wrap_u64]; exact Int.emod_nonneg _ (by decide)
  generalize IntKind.u64.wrap x = y at *
  rw [Int.tmod_eq_emod_of_nonneg h0]
  refine ⟨(y % 8).toNat, by omega, ?_⟩
  unfold wrap64
  omega

theorem Held.good {B : Nat} {w0 w : World} {p : Nat} {kv : Value} {S : List (List Nat)} {W : List (Nat × List Nat)} {arm : Nat} {down : Bool} (h : Held B w0 w p kv S W arm down) : Good S W := by
  obtain ⟨wv, mv, hd, _⟩ := h.dk
  exact hd.good

/-- what each of the eight shows -/
def wantL (x y : Nat) (lb lc : List Nat) (i : Nat) : List Nat := if i = y then secOf lb else if i = x then secOf lc else zeros 64
theorem want_x {x y : Nat} (h : x ≠ y) (lb lc : List Nat) : wantL x y lb lc x = secOf lc := by simp [wantL, h]
theorem want_y (x y : Nat) (lb lc : List Nat) : wantL x y lb lc y = secOf lb := by simp [wantL]
theorem want_o {x y i : Nat} (h1 : i ≠ x) (h2 : i ≠ y) (lb lc : List Nat) : wantL x y lb lc i = zeros 64 := by simp [wantL, h1, h2]
theorem want_len (x y : Nat) (lb lc : List Nat) (i : Nat) : (wantL x y lb lc i).length = 64 := by
  unfold wantL
  split
  · exact secOf_len _
  · split
    · exact secOf_len _
    · simp [zeros]
theorem want_lt (x y : Nat) {lb lc : List Nat} (hb : ∀ n ∈ lb, n < 256) (hc : ∀ n ∈ lc, n < 256) (i : Nat) : ∀ n ∈ wantL x y lb lc i, n < 256 := by
  unfold wantL
  split
  · exact secOf_lt hb
  · split
    · exact secOf_lt hc
    · intro n hn
      rw [List.eq_of_mem_replicate hn]
      decide
theorem want_first (x y : Nat) (hy : x ≠ y) (la lb lc : List Nat) (i : Nat) (hi : i < 8) : shown (List.replicate 8 (zeros 64)) ([] ++ [(x, secOf la)] ++ [(y, secOf lb)] ++ [(x, secOf lc)]) i = wantL x y lb lc i := by
  rw [shown_snoc, shown_snoc, shown_snoc, shown_nil]
  unfold wantL
  by_cases e1 : i = y
  · subst e1
    simp [hy]
  · by_cases e2 : i = x
    · subst e2
      simp [e1]
    · have e1' : ¬ y = i := fun h => e1 h.symm
      have e2' : ¬ x = i := fun h => e2 h.symm
      simp only [e1, e2, e1', e2', if_false]
      rw [List.getD_eq_getElem?_getD, List.getElem?_replicate, if_pos hi]
      rfl

namespace diskApart
set_option maxRecDepth 100000 in
set_option maxHeartbeats 1000000 in
theorem walk (w : World) (va : Value) (la : List Nat) (ra : RowB w va la) (sa : la.length ≤ 140737488351232) (vb : Value) (lb : List Nat) (rb : RowB w vb lb) (sb : lb.length ≤ 140737488351232) (vc : Value) (lc : List Nat) (rc : RowB w vc lc) (sc : lc.length ≤ 140737488351232)
    (x : Int) (wx : (Lit.int .i64 x).wf = true) (y : Int) (wy : (Lit.int .i64 y).wf = true) :
    Calls Try.prog 6 #[va, vb, vc, .int .i64 x, .int .i64 y] w fun e w' => e = .returned (.bool true) ∧ Below w.heap.size w w' := by
  go_enter Try.func6, Try.ntmps6
  go_wp2_with fail
  refine (new_held 8 w (by decide) (by decide)).mono ?_
  rintro e w1 ⟨p, kv, rfl, h1⟩
  have H1 := Lib.hid h1
  clear h1
  go_wp2_with fail
  obtain ⟨x8, hx8, ex⟩ := mod8 x
  obtain ⟨y8, hy8, ey⟩ := mod8 y
  generalize wrap64 ((IntKind.u64.wrap x).tmod 8) = zx at *
  generalize wrap64 ((IntKind.u64.wrap y).tmod 8) = zy at *
  subst ex ey
  refine (awake_any w1).mono ?_
  rintro e w2 ⟨rfl, hb⟩
  have H2 := Lib.hid (H1.out.below' hb)
  clear H1 hb
  by_cases hxy : x8 = y8
  · subst hxy
    go_wp2_with fail
    refine (awake_any w2).mono ?_
    rintro e w3 ⟨rfl, hb⟩
    have H3 := Lib.hid (H2.out.below' hb)
    clear hb H2
    go_wp2_with fail
    go_ret
    exact ⟨rfl, H3.out.below⟩
  · have hxi : ((x8 : Int) == (y8 : Int)) = false := beq_eq_false_iff_ne.2 (by omega)
    go_wp2_with fail
    have hfx : Hid (x8 < (List.replicate 8 (zeros 64)).length) := Lib.hid (by simpa using hx8)
    have hfy : Hid (y8 < (List.replicate 8 (zeros 64)).length) := Lib.hid (by simpa using hy8)
    refine (sector_any va la w2 (ra.below H2.out.below) (by omega)).mono ?_
    rintro e w3 ⟨oa, rfl, ho, hb⟩
    have H3 := Lib.hid (H2.out.below' hb)
    have HO := Lib.hid ho
    clear ho hb H2
    go_wp2_with fail
    refine (write0_held H3.out x8 hfx.out oa (secOf la) (HO.out.rowB (secOf_lt ra.lt)) (secOf_len _) HO.out.alien (by decide)).mono ?_
    rintro e w4 ⟨rfl, h4⟩
    have H4 := Lib.hid h4
    clear h4 H3 HO
    go_wp2_with fail
    refine (sector_any vb lb w4 (rb.below H4.out.below) (by omega)).mono ?_
    rintro e w5 ⟨ob, rfl, ho, hb⟩
    have H5 := Lib.hid (H4.out.below' hb)
    have HO := Lib.hid ho
    clear ho hb H4
    go_wp2_with fail
    refine (write0_held H5.out y8 hfy.out ob (secOf lb) (HO.out.rowB (secOf_lt rb.lt)) (secOf_len _) HO.out.alien (by simp)).mono ?_
    rintro e w6 ⟨rfl, h6⟩
    have H6 := Lib.hid h6
    clear h6 H5 HO
    go_wp2_with fail
    refine (sector_any vc lc w6 (rc.below H6.out.below) (by omega)).mono ?_
    rintro e w7 ⟨oc, rfl, ho, hb⟩
    have H7 := Lib.hid (H6.out.below' hb)
    have HO := Lib.hid ho
    clear ho hb H6
    go_wp2_with fail
    refine (write0_held H7.out x8 hfx.out oc (secOf lc) (HO.out.rowB (secOf_lt rc.lt)) (secOf_len _) HO.out.alien (by simp)).mono ?_
    rintro e w8 ⟨rfl, h8⟩
    have H8 := Lib.hid h8
    clear h8 H7 HO
    go_wp2_with fail
    go_loopw [13] (fun i wr => ∃ (k : Nat) (S : List (List Nat)) (W : List (Nat × List Nat)), k ≤ 2 ∧ i = .int .i64 (k : Int) ∧ Held w.heap.size w wr p kv S W 0 false ∧ S.length = 8 ∧ ∀ a, a < 8 → shown S W a = wantL x8 y8 lb lc a) (fun i _ => (2 - intOf i).toNat)
    case atStart => exact ⟨0, _, _, by omega, rfl, H8.out, by simp, fun a ha => want_first x8 y8 hxy la lb lc a ha⟩
    case round =>
      obtain ⟨k, S, W, hk, rfl, hheld, hS, hwant⟩ := hrel
      have H := Lib.hid hheld
      have HS := Lib.hid hS
      have HWANT := Lib.hid hwant
      clear hheld hS hwant H8 hfx hfy
      by_cases hk2 : k < 2
      · have hki : (k : Int) < 2 := by omega
        go_wp2_with fail
        go_loopw [14] (fun i wr => ∃ j : Nat, j ≤ 8 ∧ i = .int .i64 (j : Int) ∧ Held w.heap.size w wr p kv S W 0 false) (fun i _ => (8 - intOf i).toNat)
        case atStart => exact ⟨0, by omega, rfl, H.out⟩
        case round =>
          obtain ⟨j, hj, rfl, hheld⟩ := hrel
          have HI := Lib.hid hheld
          clear hheld
          by_cases hj8 : j < 8
          · have hji : (j : Int) < 8 := by omega
            go_wp2_with fail
            refine (read_held HI.out j (by rw [HS.out]; exact hj8)).mono ?_
            rintro e w9 ⟨o, rfl, ho, hb⟩
            rw [HWANT.out j hj8] at ho
            have H9 := Lib.hid (HI.out.below' hb)
            have HR := Lib.hid (ho.rowB (want_lt x8 y8 rb.lt rc.lt j))
            clear ho hb
            by_cases ejx : j = x8
            · have q1 : ((j : Int) == (x8 : Int)) = true := by simp [ejx]
              have q2 : ((j : Int) == (y8 : Int)) = false := beq_eq_false_iff_ne.2 (by omega)
              rw [show wantL x8 y8 lb lc j = secOf lc from by rw [ejx]; exact want_x hxy lb lc] at HR
              clear ejx
              go_wp2_with (at_make; refine make_64 rfl _ _ rfl rfl rfl ?_)
              intro w10 ho hb
              have H10 := Lib.hid (H9.out.below' hb)
              have HR1 := Lib.hid (HR.out.below hb)
              have HZ := Lib.hid (ho.rowB (by intro n hn; rw [List.eq_of_mem_replicate hn]; decide))
              clear ho hb H9 HR
              go_wp2_with fail
              refine (sector_any vc lc w10 (rc.below H10.out.below) (by omega)).mono ?_
              rintro e w11 ⟨o2, rfl, ho, hb⟩
              have H11 := Lib.hid (H10.out.below' hb)
              have HR2 := Lib.hid (HR1.out.below hb)
              have HT := Lib.hid (ho.rowB (secOf_lt rc.lt))
              clear ho hb H10 HR1 HZ
              go_wp2_with fail
              refine (bytes_any HR2.out HT.out).mono ?_
              rintro e w12 ⟨rfl, rfl⟩
              simp only [decide_true]
              go_wp2_with fail
              go_roundw
              case rel => exact ⟨j + 1, by omega, by go_num, H11.out⟩
              case measure => simp [intOf]; omega
            by_cases ejy : j = y8
            · have q1 : ((j : Int) == (x8 : Int)) = false := beq_eq_false_iff_ne.2 (by omega)
              have q2 : ((j : Int) == (y8 : Int)) = true := by simp [ejy]
              rw [show wantL x8 y8 lb lc j = secOf lb from by rw [ejy]; exact want_y x8 y8 lb lc] at HR
              clear ejy
              go_wp2_with (at_make; refine make_64 rfl _ _ rfl rfl rfl ?_)
              intro w10 ho hb
              have H10 := Lib.hid (H9.out.below' hb)
              have HR1 := Lib.hid (HR.out.below hb)
              have HZ := Lib.hid (ho.rowB (by intro n hn; rw [List.eq_of_mem_replicate hn]; decide))
              clear ho hb H9 HR
              go_wp2_with fail
              refine (sector_any vb lb w10 (rb.below H10.out.below) (by omega)).mono ?_
              rintro e w11 ⟨o2, rfl, ho, hb⟩
              have H11 := Lib.hid (H10.out.below' hb)
              have HR2 := Lib.hid (HR1.out.below hb)
              have HT := Lib.hid (ho.rowB (secOf_lt rb.lt))
              clear ho hb H10 HR1 HZ
              go_wp2_with fail
              refine (bytes_any HR2.out HT.out).mono ?_
              rintro e w12 ⟨rfl, rfl⟩
              simp only [decide_true]
              go_wp2_with fail
              go_roundw
              case rel => exact ⟨j + 1, by omega, by go_num, H11.out⟩
              case measure => simp [intOf]; omega
            · have q1 : ((j : Int) == (x8 : Int)) = false := beq_eq_false_iff_ne.2 (by omega)
              have q2 : ((j : Int) == (y8 : Int)) = false := beq_eq_false_iff_ne.2 (by omega)
              rw [show wantL x8 y8 lb lc j = zeros 64 from want_o ejx ejy lb lc] at HR
              clear ejx ejy
              go_wp2_with (at_make; refine make_64 rfl _ _ rfl rfl rfl ?_)
              intro w10 ho hb
              have H10 := Lib.hid (H9.out.below' hb)
              have HR1 := Lib.hid (HR.out.below hb)
              have HZ := Lib.hid (ho.rowB (by intro n hn; rw [List.eq_of_mem_replicate hn]; decide))
              clear ho hb H9 HR
              go_wp2_with fail
              have H11 := H10
              refine (bytes_any HR1.out HZ.out).mono ?_
              rintro e w12 ⟨rfl, rfl⟩
              simp only [decide_true]
              go_wp2_with fail
              go_roundw
              case rel => exact ⟨j + 1, by omega, by go_num, H11.out⟩
              case measure => simp [intOf]; omega
          · obtain rfl : j = 8 := by omega
            go_wp2_with fail
            refine (flush0_held HI.out).mono ?_
            rintro e w9 ⟨rfl, h9⟩
            have H9 := Lib.hid h9
            clear h9
            go_wp2_with fail
            refine (waiting_held H9.out).mono ?_
            rintro e w10 ⟨rfl, rfl⟩
            go_wp2_with fail
            go_roundw
            case rel =>
              refine ⟨k + 1, _, _, by omega, by go_num, H9.out, by rw [flushed_len]; exact HS.out, fun a ha => ?_⟩
              have hG := HI.out.good
              rw [shown_nil, flushed_shown W hG.s64 hG.w64 hG.wat a (by rw [HS.out]; exact ha)]
              exact HWANT.out a ha
            case measure => simp [intOf]; omega
      · obtain rfl : k = 2 := by omega
        go_wp2_with fail
        go_ret
        exact ⟨rfl, H.out.below⟩
end diskApart
end Go.Proofs.Ytgdfobhhkfplbaa
