/-
  The library's IndexByte and TrimSuffix at rows of bytes.
-/
import Derived.Test.YtlfdcocaedeneaaDoorMem
import Derived.Test.YtlfdcocaedeneaaDoorShelf
namespace Go.Proofs.YtlfdcocaedeneaaDoor
set_option linter.unusedVariables false
open Go.RowKit

/-- how many bytes stand ahead of the first c -/
def aheadN (c : Nat) (l : List Nat) : Nat := (l.takeWhile (fun x => x != c)).length
theorem aheadN_le (c : Nat) (l : List Nat) : aheadN c l ≤ l.length := by
  unfold aheadN
  have := congrArg List.length (List.takeWhile_append_dropWhile (p := fun x => x != c) (l := l))
  rw [List.length_append] at this
  omega
def idxI (c : Nat) (l : List Nat) : Int := if aheadN c l < l.length then (aheadN c l : Int) else -1

theorem index_law (c : Nat) (hc : c < 256) (l : List Nat) (h : ∀ n ∈ l, n < 256) : Lib.indexByte (Lib.bytesOf (l.map (fun (n : Nat) => (n : Int)))) ((c : Int).toNat.toUInt8) = idxI c l := by
  induction l with
  | nil => rfl
  | cons x l ih =>
    have ih' := ih fun n hn => h n (List.mem_cons_of_mem _ hn)
    have hx : x < 256 := h x (List.mem_cons_self ..)
    have e : Lib.bytesOf ((x :: l).map (fun (n : Nat) => (n : Int))) = UInt8.ofNat x :: Lib.bytesOf (l.map (fun (n : Nat) => (n : Int))) := by simp [Lib.bytesOf]
    rw [e]
    unfold Lib.indexByte
    have hb : (UInt8.ofNat x == ((c : Int).toNat.toUInt8)) = decide (x = c) := by
      by_cases hxc : x = c
      · subst hxc; simp
      · have : ¬ UInt8.ofNat x = UInt8.ofNat c := by
          intro h1
          have h2 := congrArg UInt8.toNat h1
          simp at h2
          omega
        simp [hxc]
        exact this
    rw [hb]
    by_cases hxc : x = c
    · subst hxc
      simp [idxI, aheadN]
    · rw [if_neg (by simpa using hxc), ih']
      have ha : aheadN c (x :: l) = aheadN c l + 1 := by simp [aheadN, hxc]
      unfold idxI
      rw [ha]
      by_cases hl : aheadN c l < l.length
      · rw [if_pos hl, if_neg (by first | (simp; done) | (simp; omega)), if_pos (by first | (simp; done) | (simp; omega))]
        simp
      · rw [if_neg hl, if_pos (by decide), if_neg (by first | (simp; done) | (simp; omega))]

theorem index_any (lb lo cap c : Nat) (l : List Nat) (w : World) (hc : c < 256) (hr : RowB w (.slice (some ⟨lb, lo, none⟩) l.length cap) l) :
    Calls Tryd.prog 39 #[.slice (some ⟨lb, lo, none⟩) l.length cap, .int .u8 c] w fun e w' => e = .returned (.int .i64 (idxI c l)) ∧ w' = w := by
  have h := Tryd.bytes_IndexByte lb lo l.length cap (l.map (fun (n : Nat) => (n : Int))) (c : Int) w (by simp) (by
    intro i hi
    obtain ⟨a, len, cp, e, hl, _, _, _, _, hcell⟩ := hr
    simp only [Value.slice.injEq] at e
    obtain ⟨rfl, rfl, rfl⟩ := e
    have := hcell _ rfl i hi
    rw [Addr.add_lit] at this
    rw [this]
    simp [hi])
  rw [index_law c hc l hr.lt] at h
  exact h

theorem equal_any {va vb : Value} {la lb : List Nat} {w : World} (ha : RowB w va la) (hb : RowB w vb lb) :
    Calls Tryd.prog 62 #[va, vb] w fun e w' => e = .returned (.bool (decide (la = lb))) ∧ w' = w := by
  have h1 := run_str ha
  have h2 := run_str hb
  have h3 : ((strN la).toList == (strN lb).toList) = decide (la = lb) := by
    rw [strN_toList, strN_toList]
    by_cases h : la = lb
    · subst h; simp
    · have : ¬ la.map UInt8.ofNat = lb.map UInt8.ofNat := fun e => h (strN_inj ha.lt hb.lt e)
      rw [decide_eq_false h]
      exact beq_false_of_ne this
  have H3 := Lib.hid h3
  clear ha hb h3
  generalize strN la = x at *
  generalize strN lb = y at *
  go_enter Tryd.func62, Tryd.ntmps62
  go_wp2_with fail
  go_ret
  refine ⟨ret_eq ?_, rfl⟩
  rw [← H3.out]
  rfl

/-- how long the text of a line is: without the CR at its end -/
def trimN (t : List Nat) : Nat := if t.getLast? = some 13 then t.length - 1 else t.length

theorem RowB.part {w : World} {lb lo cap : Nat} {l : List Nat} (h : RowB w (.slice (some ⟨lb, lo, none⟩) l.length cap) l) (i j c : Nat) (hij : i ≤ j) (hj : j ≤ l.length) (hc : j - i ≤ c) (hm : c ≤ cap) :
    RowB w (.slice (some ⟨lb, lo + i, none⟩) (j - i) c) ((l.drop i).take (j - i)) := by
  obtain ⟨ad, len, cp, e, hl, hcc, hmm, hw, hne, hcell⟩ := h
  simp only [Value.slice.injEq] at e
  obtain ⟨rfl, rfl, rfl⟩ := e
  refine ⟨_, _, _, rfl, by simp; omega, hc, by omega, fun x hx => hw x (List.mem_of_mem_drop (List.mem_of_mem_take hx)), by simp, fun x hx k hk => ?_⟩
  obtain rfl := Option.some.inj hx
  have hk' : k < j - i := by simp at hk; omega
  have := hcell _ rfl (i + k) (by omega)
  rw [Addr.add_lit] at this ⊢
  rw [Nat.add_assoc, this]
  simp

theorem suffix_any {lb lo cap : Nat} {t : List Nat} {vb : Value} {w : World} (hr : RowB w (.slice (some ⟨lb, lo, none⟩) t.length cap) t) (hc : t.length < cap) (hm : cap ≤ maxLen) (hcr : RowB w vb [13]) (hv : ∃ a c, vb = .slice a 1 c) :
    Calls Tryd.prog 56 #[.slice (some ⟨lb, lo, none⟩) t.length cap, vb] w fun e w' => e = .returned (.bool (decide (t.getLast? = some 13))) ∧ w' = w := by
  obtain ⟨a, c, rfl⟩ := hv
  unfold maxLen at hm
  have HR := Lib.hid hr
  have HC := Lib.hid hcr
  clear hr hcr
  by_cases h0 : t.length = 0
  · have : t = [] := List.eq_nil_of_length_eq_zero h0
    subst this
    go_enter Tryd.func56, Tryd.ntmps56
    go_wp2_with fail
    go_ret
    exact ⟨rfl, rfl⟩
  · have hp : 1 ≤ t.length := by omega
    have gp : (1 : Int) ≤ (t.length : Int) := by omega
    have gs : (t.length : Int) - 1 ≤ (cap : Int) := by omega
    obtain ⟨d, hd1, hd2⟩ : ∃ d, t.getLast? = some d ∧ t.drop (t.length - 1) = [d] := by
      rcases List.eq_nil_or_concat t with h | ⟨s, d, h⟩
      · subst h; simp at h0
      · subst h
        exact ⟨d, by simp, by simp⟩
    have hpart := HR.out.part (t.length - 1) t.length (cap - (t.length - 1)) (by omega) (Nat.le_refl _) (by omega) (by omega)
    rw [show (t.drop (t.length - 1)).take (t.length - (t.length - 1)) = [d] by rw [hd2, show t.length - (t.length - 1) = 1 by omega]; rfl] at hpart
    have HP : Hid (RowB w (.slice (some ⟨lb, lo + (t.length - 1), none⟩) (t.length - (t.length - 1)) (cap - (t.length - 1))) [d]) := Lib.hid hpart
    have HL := Lib.hid hd1
    clear hpart hd1 hd2
    have htn : ((t.length : Int) - 1).toNat = t.length - 1 := by omega
    have hw1 : IntKind.i64.wrap ((t.length : Int) - 1) = (t.length : Int) - 1 := IntWalk.i64_in _ (by omega)
    have gc0 : (t.length : Int) - (↑(t.length - 1)) = 1 := by omega
    go_enter Tryd.func56, Tryd.ntmps56
    go_wp2_with fail
    refine (equal_any HP.out HC.out).mono ?_
    rintro e w2 ⟨rfl, rfl⟩
    go_wp2_with fail
    go_ret
    refine ⟨ret_eq ?_, rfl⟩
    rw [HL.out]
    simp

theorem trim_any {lb lo cap : Nat} {t : List Nat} {vb : Value} {w : World} (hr : RowB w (.slice (some ⟨lb, lo, none⟩) t.length cap) t) (hc : t.length < cap) (hm : cap ≤ maxLen) (hcr : RowB w vb [13]) (hv : ∃ a c, vb = .slice a 1 c) :
    Calls Tryd.prog 40 #[.slice (some ⟨lb, lo, none⟩) t.length cap, vb] w fun e w' => e = .returned (.slice (some ⟨lb, lo, none⟩) (trimN t) cap) ∧ w' = w := by
  have HS := Lib.hid (suffix_any hr hc hm hcr hv)
  obtain ⟨a, c, rfl⟩ := hv
  unfold maxLen at hm
  have hw1 : IntKind.i64.wrap ((t.length : Int) - 1) = (t.length : Int) - 1 := IntWalk.i64_in _ (by omega)
  clear hr hcr
  by_cases h : t.getLast? = some 13
  · have hp : 1 ≤ t.length := by
      rcases t with _ | ⟨x, t⟩
      · simp at h
      · simp
    have gp : (1 : Int) ≤ (t.length : Int) := by omega
    have gs : (t.length : Int) - 1 ≤ (cap : Int) := by omega
    have htn : ((t.length : Int) - 1).toNat = t.length - 1 := by omega
    have HT : Hid (trimN t = t.length - 1) := Lib.hid (by unfold trimN; rw [if_pos h])
    rw [decide_eq_true h] at HS
    clear h
    go_enter Tryd.func40, Tryd.ntmps40
    go_wp2_with fail
    refine HS.out.mono ?_
    rintro e w2 ⟨rfl, rfl⟩
    go_wp2_with fail
    go_ret
    refine ⟨ret_eq ?_, rfl⟩
    rw [HT.out]
    rfl
  · have HT : Hid (trimN t = t.length) := Lib.hid (by unfold trimN; rw [if_neg h])
    rw [decide_eq_false h] at HS
    clear h
    go_enter Tryd.func40, Tryd.ntmps40
    go_wp2_with fail
    refine HS.out.mono ?_
    rintro e w2 ⟨rfl, rfl⟩
    go_wp2_with fail
    go_ret
    refine ⟨ret_eq ?_, rfl⟩
    rw [HT.out]
    rfl
end Go.Proofs.YtlfdcocaedeneaaDoor
