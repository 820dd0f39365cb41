/-
  The greatest number among sectors, at any sectors.
-/
import Derived.Test.YtmkedanlpapndaaRdD
namespace Go.Proofs.Ytmkedanlpapndaa
set_option linter.unusedVariables false
open Go.RowKit

/-- sectors, one by one: L i is the i-th one's bytes -/
def SecL (w : World) (v : Value) (n : Nat) (L : Nat → List Nat) : Prop :=
  ∃ b off cap, v = .slice (some ⟨b, off, none⟩) n cap ∧ n ≤ cap ∧ cap ≤ maxLen ∧ ∀ i, i < n → ∃ a c, w.cell? ⟨b, off + i, none⟩ = some (.slice a 64 c) ∧ RowB w (.slice a 64 c) (L i) ∧ (L i).length = 64
theorem SecL.below {w w' : World} {v : Value} {n : Nat} {L : Nat → List Nat} (h : SecL w v n L) (hb : Below w.heap.size w w') : SecL w' v n L := by
  obtain ⟨b, off, cap, e, h1, h2, h3⟩ := h
  refine ⟨b, off, cap, e, h1, h2, fun i hi => ?_⟩
  obtain ⟨a, c, k1, k2, k3⟩ := h3 i hi
  exact ⟨a, c, by rw [hb.cell (World.block_lt_of_cell? w _ k1)]; exact k1, k2.below hb, k3⟩
/-- the greatest number of the cells among the first n -/
def maxN (L : Nat → List Nat) : Nat → Nat
  | 0 => 0
  | k + 1 => if okCell (L k) then max (maxN L k) (numN (L k) 1 8) else maxN L k
theorem maxN_ge (L : Nat → List Nat) : ∀ n i, i < n → okCell (L i) = true → numN (L i) 1 8 ≤ maxN L n := by
  intro n
  induction n with
  | zero => intro i h; omega
  | succ n ih =>
    intro i hi hok
    rw [maxN]
    by_cases e : i = n
    · subst e
      rw [if_pos hok]
      exact Nat.le_max_right _ _
    · have := ih i (by omega) hok
      split
      · exact Nat.le_trans this (Nat.le_max_left _ _)
      · exact this
theorem maxN_le (L : Nat → List Nat) (N : Nat) : ∀ n, (∀ i, i < n → okCell (L i) = true → numN (L i) 1 8 ≤ N) → maxN L n ≤ N := by
  intro n
  induction n with
  | zero => intro _; exact Nat.zero_le _
  | succ n ih =>
    intro h
    rw [maxN]
    have := ih (fun i hi => h i (by omega))
    split
    · exact Nat.max_le.2 ⟨this, h n (by omega) (by assumption)⟩
    · exact this

set_option maxRecDepth 100000 in
set_option maxHeartbeats 4000000 in
theorem greatest_any {w : World} {v : Value} {n : Nat} {L : Nat → List Nat} (hs : SecL w v n L) (hn : n ≤ 65536) :
    Calls Try.prog 36 #[v] w fun e w' => e = .returned (.int .u64 (maxN L n : Nat)) ∧ Below w.heap.size w w' := by
  obtain ⟨b, off, cap, rfl, h1, h2, -⟩ := id hs
  have HS := Lib.hid hs
  clear hs
  go_enter Try.func36, Try.ntmps36
  go_wp2_with fail
  go_loopw [10, 3] (fun i top wr => ∃ k : Nat, k ≤ n ∧ i = .int .i64 (k : Nat) ∧ top = .int .u64 (maxN L k : Nat) ∧ Below w.heap.size w wr) (fun i _ _ => n - (RowKit.intOf i).toNat)
  case atStart => exact ⟨0, Nat.zero_le _, rfl, rfl, Below.refl _ _⟩
  case round =>
    obtain ⟨k, hk, rfl, rfl, hb⟩ := hrel
    have HBW := Lib.hid hb
    by_cases hkn : k < n
    · have hkz : (k : Int) < (n : Int) := by omega
      obtain ⟨b', off', cap', e, -, -, hcell⟩ := HS.out.below hb
      obtain ⟨⟨rfl, rfl⟩, rfl⟩ : (b = b' ∧ off = off') ∧ cap = cap' := by simpa using e
      obtain ⟨sa, sc, hc, hrow, h64⟩ := hcell k hkn
      have HRC := Lib.hid (read_cellS hrow h64)
      clear hb hcell e
      generalize hm : maxN L k = m
      have HM := Lib.hid hm
      clear hm
      cases ho : okCell (L k)
      · rw [ho] at HRC
        have HO := Lib.hid ho
        clear ho
        go_wp2_with (first
          | (go_at_call 52; refine HRC.out.mono ?_; rintro e w3 ⟨dv, rfl, ⟨da, dl, dc, rfl⟩, -, hb3⟩
             have HB3 := Lib.hid (HBW.out.trans (hb3.mono HBW.out.size))
             clear hb3))
        go_roundw
        case rel => exact ⟨k + 1, by omega, by go_num, by rw [maxN, HO.out, HM.out]; rfl, HB3.out.alloc HB3.out.size _⟩
        case measure => simp [intOf]; omega
      · rw [ho] at HRC
        have HO := Lib.hid ho
        have hw : wholeL (L k) = true := by
          have := ho
          unfold okCell at this
          simp at this
          exact this.1
        clear ho
        have e8 : cellV (L k) 1 8 = numN (L k) 1 8 := by simp [cellV, hw]
        rw [e8] at HRC
        generalize hN : numN (L k) 1 8 = N at HRC
        have HN := Lib.hid hN
        clear hN
        go_wp2_with (first
          | (go_at_call 52; refine HRC.out.mono ?_; rintro e w3 ⟨dv, rfl, ⟨da, dl, dc, rfl⟩, -, hb3⟩
             have HB3 := Lib.hid (HBW.out.trans (hb3.mono HBW.out.size))
             clear hb3))
        go_roundw
        case rel => exact ⟨k + 1, by omega, by go_num, by rw [maxN, HO.out, HM.out, HN.out, if_pos rfl]; congr 1; omega, HB3.out.alloc HB3.out.size _⟩
        case measure => simp [intOf]; omega
    · obtain rfl : k = n := by omega
      go_wp2_with fail
      go_ret
      exact ⟨rfl, HBW.out⟩
end Go.Proofs.Ytmkedanlpapndaa
