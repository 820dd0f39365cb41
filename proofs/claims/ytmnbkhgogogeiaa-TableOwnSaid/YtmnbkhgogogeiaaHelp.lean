/-
  The contracts of the helpers that hold bytes against each other.
-/
import Derived.Test.YtmnbkhgogogeiaaMem
import Derived.WalkSpells
import Derived.BigQuiet
import Derived.Deep.QuietTactic
namespace Go.Proofs.Ytmnbkhgogogeiaa
set_option linter.unusedVariables false
open Go.RowKit

/-- the text of a list of numbers -/
def strN (l : List Nat) : ByteArray := ⟨(l.map UInt8.ofNat).toArray⟩
theorem strN_toList (l : List Nat) : (strN l).toList = l.map UInt8.ofNat := by simp [strN]

theorem strN_inj {l m : List Nat} (hl : ∀ n ∈ l, n < 256) (hm : ∀ n ∈ m, n < 256) (h : l.map UInt8.ofNat = m.map UInt8.ofNat) : l = m := by
  induction l generalizing m with
  | nil => cases m with
    | nil => rfl
    | cons => simp at h
  | cons a l ih => cases m with
    | nil => simp at h
    | cons b m =>
      simp only [List.map_cons, List.cons.injEq] at h
      have ha := hl a (by simp)
      have hb := hm b (by simp)
      have e1 : a = b := by
        have := congrArg UInt8.toNat h.1
        simp at this
        omega
      rw [e1, ih (fun n hn => hl n (by simp [hn])) (fun n hn => hm n (by simp [hn])) h.2]

theorem ints_of (l : List Nat) : strOfNums (l.map (fun (n : Nat) => (n : Int))) = strN l := by simp [strOfNums, strN, Function.comp_def]

/-- bytes as a text -/
theorem run_str {w : World} {v : Value} {l : List Nat} (h : RowB w v l) : (convert 23 9 v).run Try.prog w = .ok (.string (strN l)) w := by
  obtain ⟨a, len, cap, rfl, hl, hc, hm, hw, hn, hcell⟩ := h
  cases a with
  | none =>
    obtain ⟨rfl, rfl⟩ := hn rfl
    obtain rfl : l = [] := List.eq_nil_of_length_eq_zero hl
    exact run_convert_bytes_nil w 23 5 Try.underlying23 Try.underlying5 0 0 9 Try.underlying9
  | some x =>
    rw [run_convert_bytes_string w 23 9 5 _ len cap Try.underlying23 Try.underlying5 Try.underlying9,
      run_bytesToString w x len cap (l.map (fun (n : Nat) => (n : Int))) ?_, foldl_push_bytes]
    · rw [← ints_of]
      simp [strOfNums, ByteArray.empty, ByteArray.emptyWithCapacity]
      rfl
    · have := run_loadCells_list (P := Try.prog) w x (u8s l) (fun j v hj => by
        have hjl : j < l.length := by have := (List.getElem?_eq_some_iff.1 hj).1; simpa using this
        rw [u8s_get l j hjl] at hj
        cases hj
        exact hcell x rfl j hjl)
      rw [u8s_length, hl] at this
      rw [this]
      simp [u8s, Function.comp_def]

theorem bytes_any {va vb : Value} {la lb : List Nat} {w : World} (ha : RowB w va la) (hb : RowB w vb lb) :
    Calls Try.prog 20 #[va, vb] w fun e w' => e = .returned (.bool (decide (la = lb))) ∧ w = w' := by
  have r1 := run_str ha
  have r2 := run_str hb
  have hd : ((strN la).toList == (strN lb).toList) = decide (la = lb) := by
    rw [strN_toList, strN_toList, Bool.eq_iff_iff]
    simp
    exact ⟨fun h => strN_inj ha.lt hb.lt h, fun h => by rw [h]⟩
  have Hd := Lib.hid hd
  clear hd
  go_enter Try.func20, Try.ntmps20
  go_wp2_with fail
  go_ret
  rw [Hd.out]
  exact ⟨rfl, rfl⟩


/-- 'x == y' of two bytes -/
theorem eq_any (x y : Int) (w : World) : Calls Try.prog 65 #[.int .u8 x, .int .u8 y] w fun e w' => e = .returned (.bool (x == y)) ∧ w' = w := by
  go_enter Try.func65, Try.ntmps65
  go_wp2_with fail
  go_ret
  exact ⟨rfl, rfl⟩

theorem take_same {la lb : List Nat} {k : Nat} (h : la.length = lb.length) (hk : k < la.length) (ht : la.take k = lb.take k) : (la.take (k + 1) = lb.take (k + 1)) ↔ la[k] = lb[k]'(by omega) := by
  rw [List.take_succ_eq_append_getElem hk, List.take_succ_eq_append_getElem (show k < lb.length by omega), ht, List.append_cancel_left_eq]
  simp

theorem same_any {va vb : Value} {la lb : List Nat} {w : World} (ha : RowB w va la) (hb : RowB w vb lb) :
    Calls Try.prog 64 #[va, vb, .func (.func 65) #[] #[]] w fun e w' => e = .returned (.bool (decide (la = lb))) ∧ Still w w' := by
  have la' := ha.lt
  have lb' := hb.lt
  obtain ⟨aa, len, capa, rfl, hla, hca, hma, -⟩ := id ha
  obtain ⟨ab, lenb, capb, rfl, hlb, hcb, hmb, -⟩ := id hb
  by_cases hlen : len = lenb
  · subst hlen
    have hml : len ≤ maxLen := by omega
    unfold maxLen at hml
    rcases ha.shape with ⟨rfl, _⟩ | ⟨ba, oa, ca, e1, h1, h2, h3, cella⟩
    · obtain rfl : len = 0 := by simpa using hla.symm
      obtain rfl : lb = [] := List.eq_nil_of_length_eq_zero hlb
      go_enter Try.func64, Try.ntmps64
      go_wp2_with fail
      refine wp_loop_rounds 1 ?_
      rw [rounds_succ]
      go_wp2_with fail
      go_ret
      exact ⟨rfl, Still.refl _⟩
    · rcases hb.shape with ⟨rfl, _⟩ | ⟨bb, ob, cb, e2, k1, k2, k3, cellb⟩
      · simp at hlb; omega
      · simp at e1 e2
        obtain ⟨rfl, rfl, rfl⟩ := e1
        obtain ⟨rfl, -, rfl⟩ := e2
        have Hlb := Lib.hid hlb
        have Cella := Lib.hid cella
        have Cellb := Lib.hid cellb
        clear ha hb cella cellb hlb hla
        go_enter Try.func64, Try.ntmps64
        go_wp2_with fail
        go_loopw [7] (fun i wr => ∃ k : Nat, k ≤ la.length ∧ i = .int .i64 k ∧ Hid (la.take k = lb.take k) ∧ Still w wr) (fun i _ => la.length - (intOf i).toNat)
        case atStart => exact ⟨0, Nat.zero_le _, rfl, Lib.hid rfl, Still.refl _⟩
        case round =>
          obtain ⟨k, hk, rfl, ht, hst⟩ := hrel
          by_cases hka : k < la.length
          · have hkb : k < lb.length := by rw [Hlb.out]; exact hka
            have c1 : wr.cell? ⟨ba, oa + k, none⟩ = some (.int .u8 (la[k] : Nat)) := (hst.cell _).trans (Cella.out k hka)
            have c2 : wr.cell? ⟨bb, ob + k, none⟩ = some (.int .u8 (lb[k] : Nat)) := (hst.cell _).trans (Cellb.out k hkb)
            by_cases he : la[k] = lb[k]
            · have Ht := Lib.hid ((take_same Hlb.out.symm hka ht.out).2 he)
              have hb1 : ((la[k] : Nat) : Int) == ((lb[k] : Nat) : Int) := by simp [he]
              clear he
              go_wp2_with fail
              go_quiet ((go_at_call 65; exact Calls.quiet_of_same (eq_any _ _ _)))
              go_wp2_with fail
              go_roundw
              case rel => exact ⟨k + 1, by omega, by go_num, Ht, hst.drewN _⟩
              case measure => simp [intOf]; omega
            · have hne : Hid (¬ la = lb) := by
                intro h
                subst h
                exact he rfl
              have hb1 : (((la[k] : Nat) : Int) == ((lb[k] : Nat) : Int)) = false := by simp; omega
              clear he
              go_wp2_with fail
              go_quiet ((go_at_call 65; exact Calls.quiet_of_same (eq_any _ _ _)))
              go_wp2_with fail
              go_ret
              exact ⟨ret_eq (by simp [hne.out]), hst.drewN _⟩
          · obtain rfl : k = la.length := by omega
            have heq : Hid (la = lb) := by
              have := ht.out
              rwa [List.take_of_length_le (Nat.le_refl _), List.take_of_length_le (by rw [Hlb.out]; exact Nat.le_refl _)] at this
            go_wp2_with fail
            go_ret
            exact ⟨ret_eq (by simp [heq.out]), hst⟩
  · have hne : ¬ la = lb := by
      intro h
      subst h
      omega
    have Hne := Lib.hid hne
    clear hne
    have hd : ((len : Int) == (lenb : Int)) = false := by simp; omega
    go_enter Try.func64, Try.ntmps64
    go_wp2_with fail
    go_ret
    exact ⟨ret_eq (by simp [Hne.out]), Still.refl _⟩

theorem plain_any {va vb : Value} {la lb : List Nat} {w : World} (ha : RowB w va la) (hb : RowB w vb lb) :
    Calls Try.prog 35 #[va, vb] w fun e w' => e = .returned (.bool (decide (la = lb))) ∧ Still w w' := by
  go_enter Try.func35, Try.ntmps35
  go_wp2_with fail
  refine (same_any ha hb).mono ?_
  rintro e w1 ⟨rfl, hst⟩
  go_wp2_with fail
  go_ret
  exact ⟨rfl, hst⟩
end Go.Proofs.Ytmnbkhgogogeiaa
