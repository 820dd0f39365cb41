/-
  The reference's small functions: white, colon, ended, Bare.
-/
import Derived.Test.YtnncldnpkfjhbaaGreatDoorMg15
import Derived.Test.YtnncldnpkfjhbaaGreatDoorMg6
namespace Go.Proofs.YtnncldnpkfjhbaaGreatDoor
set_option linter.unusedVariables false
open Go.RowKit Go.Lib

def whiteB (c : Nat) : Bool := decide (c = 32) || decide (c = 9)
theorem white_any (c : Nat) (w : World) : Calls Tryz.prog 37 #[.int .u8 c] w fun e w' => e = .returned (.bool (whiteB c)) ∧ w = w' := by
  have HG : Hid (whiteB c = (decide (c = 32) || decide (c = 9))) := Lib.hid rfl
  by_cases e1 : c = 32
  · subst e1
    go_enter Tryz.func37, Tryz.ntmps37
    go_wp2_with fail
    go_ret
    exact ⟨rfl, rfl⟩
  · have g1 : ((c : Int) == 32) = false := beq_false_of_ne (by omega)
    have HE : Hid (c ≠ 32) := Lib.hid e1
    clear e1
    go_enter Tryz.func37, Tryz.ntmps37
    go_wp2_with fail
    go_ret
    refine ⟨ret_eq ?_, rfl⟩
    rw [HG.out, decide_eq_false HE.out]
    by_cases e2 : c = 9
    · subst e2; rfl
    · rw [decide_eq_false e2]
      have g2 : ((c : Int) == 9) = false := beq_false_of_ne (by omega)
      show Value.bool ((c : Int) == 9) = _
      rw [g2]
      rfl

def endedB (x : List Nat) : Bool := x.getLast? == some 10
/-- how long a line is without its end -/
def bareN (x : List Nat) : Nat := if x.getLast? = some 10 then trimN x.dropLast else x.length
theorem bareN_le (x : List Nat) : bareN x ≤ x.length := by
  unfold bareN
  split
  · have := trimN_le x.dropLast; simp at this; omega
  · exact Nat.le_refl _

theorem snoc_of {x : List Nat} (h : x ≠ []) : ∃ y d, x = y ++ [d] := ⟨x.dropLast, x.getLast h, (List.dropLast_concat_getLast h).symm⟩

theorem ended_any (a : Option Addr) (lb lo cap : Nat) (x : List Nat) (w : World) (ha : x ≠ [] → a = some ⟨lb, lo, none⟩) (hc : CellsL w lb lo x) (hm : x.length ≤ maxLen) :
    Calls Tryz.prog 36 #[.slice a x.length cap] w fun e w' => e = .returned (.bool (endedB x)) ∧ w = w' := by
  unfold maxLen at hm
  by_cases h0 : x = []
  · subst h0
    clear ha hc
    go_enter Tryz.func36, Tryz.ntmps36
    go_wp2_with fail
    go_ret
    exact ⟨rfl, rfl⟩
  · obtain rfl := ha h0
    obtain ⟨y, d, rfl⟩ := snoc_of h0
    have HE : Hid (endedB (y ++ [d]) = decide (d = 10)) := Lib.hid (by simp [endedB]; rfl)
    have hcell := hc y.length (by simp)
    simp only [List.getElem_concat_length] at hcell
    simp only [List.length_append, List.length_cons, List.length_nil, Nat.zero_add] at hm ⊢
    obtain ⟨n, hn⟩ : ∃ n, y.length = n := ⟨_, rfl⟩
    rw [hn] at hcell hm ⊢
    clear hc ha h0 hn
    by_cases hd : d = 10
    · subst hd
      go_enter Tryz.func36, Tryz.ntmps36
      go_wp2_with fail
      go_ret
      exact ⟨ret_eq (by rw [HE.out]; rfl), rfl⟩
    · have g1 : ((d : Int) == 10) = false := beq_false_of_ne (by omega)
      have HD : Hid (decide (d = 10) = false) := Lib.hid (decide_eq_false hd)
      clear hd
      go_enter Tryz.func36, Tryz.ntmps36
      go_wp2_with fail
      go_ret
      exact ⟨ret_eq (by rw [HE.out, HD.out]; first | rfl | (simp only [g1]; rfl)), rfl⟩

set_option maxHeartbeats 1000000 in
theorem bare_any (lb lo cap : Nat) (x : List Nat) (w : World) (hx : x ≠ []) (hc : CellsL w lb lo x) (hxc : x.length ≤ cap) (hm : cap ≤ maxLen) :
    Calls Tryz.prog 35 #[.slice (some ⟨lb, lo, none⟩) x.length cap] w fun e w' => e = .returned (.slice (some ⟨lb, lo, none⟩) (bareN x) cap) ∧ w = w' := by
  unfold maxLen at hm
  obtain ⟨q, hq⟩ : ∃ q, bareN x = q := ⟨_, rfl⟩
  rw [hq]
  obtain ⟨y, d, rfl⟩ := snoc_of hx
  have hcell := hc y.length (by simp)
  simp only [List.getElem_concat_length] at hcell
  by_cases hd : d = 10
  · subst hd
    have hbn : q = trimN y := by rw [← hq]; simp [bareN]
    have HBN := Lib.hid hbn
    clear hbn hq
    by_cases hy : y = []
    · subst hy
      simp only [List.nil_append, List.length_cons, List.length_nil, Nat.zero_add, Nat.add_zero] at hcell hxc HBN ⊢
      clear hc hx
      have HT : Hid (trimN [] = 0) := Lib.hid rfl
      go_enter Tryz.func35, Tryz.ntmps35
      go_wp2_with fail
      go_ret
      exact ⟨ret_eq (by rw [HBN.out]; rfl), rfl⟩
    · obtain ⟨z, e, rfl⟩ := snoc_of hy
      have hcell2 := hc z.length (by simp)
      have he : (z ++ [e] ++ [10])[z.length]'(by simp) = e := by simp
      rw [he] at hcell2
      simp only [List.length_append, List.length_cons, List.length_nil, Nat.zero_add] at hcell hxc ⊢
      have htr : trimN (z ++ [e]) = if e = 13 then z.length else z.length + 1 := by simp [trimN]
      have HTR := Lib.hid htr
      obtain ⟨n, hn⟩ : ∃ n, z.length = n := ⟨_, rfl⟩
      rw [hn] at hcell hcell2 hxc HTR ⊢
      clear hc hx hy he htr hn
      by_cases he : e = 13
      · subst he
        have HF : Hid (q = n) := Lib.hid (by rw [HBN.out, HTR.out, if_pos rfl])
        go_enter Tryz.func35, Tryz.ntmps35
        go_wp2_with fail
        go_ret
        exact ⟨ret_eq (by rw [HF.out]; rfl), rfl⟩
      · have g1 : ((e : Int) == 13) = false := beq_false_of_ne (by omega)
        have HF : Hid (q = n + 1) := Lib.hid (by rw [HBN.out, HTR.out, if_neg he])
        clear he
        go_enter Tryz.func35, Tryz.ntmps35
        go_wp2_with fail
        go_ret
        exact ⟨ret_eq (by rw [HF.out]; rfl), rfl⟩
  · have g1 : ((d : Int) == 10) = false := beq_false_of_ne (by omega)
    have hbn : q = y.length + 1 := by rw [← hq]; simp [bareN, hd]
    have HBN := Lib.hid hbn
    simp only [List.length_append, List.length_cons, List.length_nil, Nat.zero_add] at hxc ⊢
    obtain ⟨n, hn⟩ : ∃ n, y.length = n := ⟨_, rfl⟩
    rw [hn] at hcell hxc HBN ⊢
    clear hc hx hd hbn hn hq
    go_enter Tryz.func35, Tryz.ntmps35
    go_wp2_with fail
    go_ret
    exact ⟨ret_eq (by rw [HBN.out]; rfl), rfl⟩

theorem aheadN_get? (d : Nat) (l : List Nat) (h : aheadN d l < l.length) : l[aheadN d l]? = some d := by
  induction l with
  | nil => simp at h
  | cons y r ih =>
    by_cases hy : y = d
    · subst hy; simp [aheadN]
    · have e2 : aheadN d (y :: r) = aheadN d r + 1 := by simp [aheadN, hy]
      rw [e2] at h ⊢
      rw [List.getElem?_cons_succ]
      exact ih (by simpa using h)
theorem aheadN_get (d : Nat) (l : List Nat) (h : aheadN d l < l.length) : l[aheadN d l] = d := by
  have := aheadN_get? d l h
  rw [List.getElem?_eq_getElem h] at this
  exact Option.some.inj this
/-- where a field's name ends -/
def colonI (l : List Nat) : Int := match nameN l with | some q => (q : Int) | none => -1
theorem aheadN_at (d : Nat) (l : List Nat) (k : Nat) (h : k < l.length) (hk : l[k] = d) (hb : ∀ i (h : i < l.length), i < k → l[i] ≠ d) : aheadN d l = k := by
  have e : l = l.take k ++ d :: l.drop (k + 1) := by
    rw [← hk]
    conv => lhs; rw [← List.take_append_drop k l, List.drop_eq_getElem_cons h]
  rw [e, aheadN_all d (l.take k) _ (fun c hc => by
    obtain ⟨i, hi, rfl⟩ := List.mem_iff_getElem.1 hc
    rw [List.getElem_take]
    exact hb i (by simp at hi; omega) (by simp at hi; omega))]
  simp
  omega

set_option maxHeartbeats 1000000 in
theorem colon_any (lb lo cap : Nat) (l : List Nat) (w : World) (hc : CellsL w lb lo l) (hm : l.length ≤ 140737488351232) :
    Calls Tryz.prog 38 #[.slice (some ⟨lb, lo, none⟩) l.length cap] w fun e w' => e = .returned (.int .i64 (colonI l)) ∧ w = w' := by
  have HC := Lib.hid hc
  clear hc
  go_enter Tryz.func38, Tryz.ntmps38
  go_wp2_with fail
  go_loop [3] (fun i => ∃ k : Nat, k ≤ l.length ∧ i = .int .i64 k ∧ Hid (∀ i (h : i < l.length), i < k → l[i] ≠ 58 ∧ nameC l[i] = true)) (fun i => l.length - (RowKit.intOf i).toNat)
  case atStart => exact ⟨0, Nat.zero_le _, rfl, Lib.hid (fun i _ h => absurd h (by omega))⟩
  case round =>
    obtain ⟨k, hk, rfl, hall⟩ := hrel
    by_cases hkl : k < l.length
    · have hcell := HC.out k hkl
      have hki : (k : Int) < (l.length : Int) := by omega
      have hd58 : l[k] = 58 → aheadN 58 l = k := fun e => aheadN_at 58 l k hkl e (fun i h h2 => (hall.out i h h2).1)
      have hbad : l[k] ≠ 58 → nameC l[k] = false → nameN l = none := fun h1 h2 => by
        unfold nameN
        rw [if_neg]
        rintro ⟨h3, h4, h5⟩
        rcases Nat.lt_or_ge k (aheadN 58 l) with h6 | h6
        · have := h5 l[k] (by rw [List.mem_iff_getElem]; exact ⟨k, by simp; omega, by simp⟩)
          rw [h2] at this
          cases this
        · have h7 : l[aheadN 58 l] = 58 := aheadN_get 58 l h4
          rcases Nat.lt_or_ge (aheadN 58 l) k with h8 | h8
          · exact (hall.out _ h4 h8).1 h7
          · have : aheadN 58 l = k := by omega
            simp only [this] at h7
            exact h1 h7
      have hgood : l[k] = 58 → 1 ≤ k → nameN l = some k := fun h1 h2 => by
        unfold nameN
        rw [hd58 h1, if_pos ⟨h2, hkl, fun c hc => by
          obtain ⟨i, hi, rfl⟩ := List.mem_iff_getElem.1 hc
          rw [List.getElem_take]
          exact (hall.out i (by simp at hi; omega) (by simp at hi; omega)).2⟩]
      have hzero : l[k] = 58 → k = 0 → nameN l = none := fun h1 h2 => by
        unfold nameN
        rw [hd58 h1, if_neg (fun h => by have := h.1; omega)]
      have hnext : l[k] ≠ 58 → nameC l[k] = true → ∀ i (h : i < l.length), i < k + 1 → l[i] ≠ 58 ∧ nameC l[i] = true := fun h1 h2 i h h3 => by
        rcases Nat.lt_or_ge i k with h4 | h4
        · exact hall.out i h h4
        · obtain rfl : i = k := by omega
          exact ⟨h1, h2⟩
      have HB := Lib.hid hbad
      have HG := Lib.hid hgood
      have HZ := Lib.hid hzero
      have HN := Lib.hid hnext
      clear hbad hgood hzero hnext hd58 hall
      generalize hd : l[k] = d at *
      clear hd
      by_cases h58 : d = 58
      · subst h58
        by_cases hk0 : k = 0
        · have g0 : ((k : Int) == 0) = true := by simp [hk0]
          have HF : Hid (colonI l = -1) := Lib.hid (by unfold colonI; rw [HZ.out rfl hk0])
          clear hk0
          go_wp2_with fail
          go_ret
          exact ⟨ret_eq (by rw [HF.out]; rfl), rfl⟩
        · have g0 : ((k : Int) == 0) = false := beq_false_of_ne (by omega)
          have HF : Hid (colonI l = k) := Lib.hid (by unfold colonI; rw [HG.out rfl (by omega)])
          clear hk0
          go_wp2_with fail
          go_ret
          exact ⟨ret_eq (by rw [HF.out]; rfl), rfl⟩
      · have g1 : ((d : Int) == 58) = false := beq_false_of_ne (by omega)
        by_cases hlo : (d : Int) < 33
        · have HF : Hid (colonI l = -1) := Lib.hid (by unfold colonI; rw [HB.out h58 (by simp [nameC]; omega)])
          clear h58
          go_wp2_with fail
          go_ret
          exact ⟨ret_eq (by rw [HF.out]; rfl), rfl⟩
        · by_cases hhi : 126 < (d : Int)
          · have HF : Hid (colonI l = -1) := Lib.hid (by unfold colonI; rw [HB.out h58 (by simp [nameC]; omega)])
            clear h58
            go_wp2_with fail
            go_ret
            exact ⟨ret_eq (by rw [HF.out]; rfl), rfl⟩
          · have HX : Hid (∀ i (h : i < l.length), i < k + 1 → l[i] ≠ 58 ∧ nameC l[i] = true) := Lib.hid (HN.out h58 (by simp [nameC]; exact ⟨by omega, by omega⟩))
            clear h58
            go_wp2_with fail
            go_round
            case rel => exact ⟨k + 1, by omega, by go_num, HX⟩
            case measure => simp [RowKit.intOf]; omega
    · obtain rfl : k = l.length := by omega
      have HF : Hid (colonI l = -1) := Lib.hid (by
        unfold colonI nameN
        rw [if_neg]
        rintro ⟨_, h4, _⟩
        have h7 : l[aheadN 58 l] = 58 := aheadN_get 58 l h4
        exact (hall.out _ h4 h4).1 h7)
      clear hall
      go_wp2_with fail
      go_ret
      exact ⟨ret_eq (by rw [HF.out]; rfl), rfl⟩
end Go.Proofs.YtnncldnpkfjhbaaGreatDoor
