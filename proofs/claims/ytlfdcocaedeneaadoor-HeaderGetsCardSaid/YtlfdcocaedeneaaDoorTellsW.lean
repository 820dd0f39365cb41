/-
  HeaderTells: its walk.
-/
import Derived.Test.YtlfdcocaedeneaaDoorRefF
import Derived.Test.YtlfdcocaedeneaaDoorOwn
namespace Go.Proofs.YtlfdcocaedeneaaDoor
set_option linter.unusedVariables false
open Go.RowKit Go.Lib

/-- a row of bytes: where it lies -/
theorem RowB.place {w : World} {a : Option Addr} {n cap : Nat} {l : List Nat} (hr : RowB w (.slice a n cap) l) : ∃ lb lo, (l ≠ [] → a = some ⟨lb, lo, none⟩) ∧ (l ≠ [] → lb < w.heap.size) ∧ CellsL w lb lo l ∧ l.length ≤ cap ∧ cap ≤ maxLen := by
  obtain ⟨x, len, cp, e, h1, h2, h3, _⟩ := id hr
  simp only [Value.slice.injEq] at e
  obtain ⟨rfl, rfl, rfl⟩ := e
  by_cases h : l = []
  · subst h; exact ⟨0, 0, fun h => absurd rfl h, fun h => absurd rfl h, fun i hi => absurd hi (by simp), by omega, h3⟩
  · have h0 : 0 < l.length := List.length_pos_iff.2 h
    rcases hr.shape with ⟨rfl, he⟩ | ⟨lb, lo, c, e, _, _, _, hcell⟩
    · exact absurd rfl h
    · simp only [Value.slice.injEq] at e
      obtain ⟨rfl, -, rfl⟩ := e
      exact ⟨lb, lo, fun _ => rfl, fun _ => World.block_lt_of_cell? w _ (hcell 0 h0), fun i hi => hcell i hi, by omega, h3⟩

set_option maxRecDepth 100000 in
set_option maxHeartbeats 2000000 in
theorem tells_walk (v : Value) (l : List Nat) (w : World) (h0 : RowB w v l) (hb0 : l.length ≤ 140737488351232) :
    Calls Tryd.prog 3 #[v] w fun e w' => e = .returned (.bool true) ∧ Below w.heap.size w w' := by
  have HAW := Lib.hid (fun w => awake_any w)
  obtain ⟨a0, n0, c0, rfl, hl0, -⟩ := id h0
  have H0 := Lib.hid h0
  have HL0 := Lib.hid hl0
  clear h0 hl0
  by_cases g0 : 20000 < (n0 : Int)
  · go_enter Tryd.func3, Tryd.ntmps3
    go_wp2_with fail
    refine (HAW.out _).mono ?_
    rintro e w1 ⟨rfl, hb⟩
    go_wp2_with fail
    go_ret
    exact ⟨rfl, hb⟩
  · have hll : l.length ≤ 20000 := by rw [HL0.out]; omega
    have HRS : Hid (∀ W, Below w.heap.size w W → Calls Tryd.prog 11 #[.slice a0 n0 c0] W fun e w' => e = .returned (.int .i64 (splitS l : Nat)) ∧ Below W.heap.size W w') := Lib.hid (fun W hb => by
      obtain ⟨lb, lo, h1, h2, h3, h4, h5⟩ := RowB.place (H0.out.below hb)
      have := rsplit_any a0 lb lo c0 l W h1 h2 h3 h4 h5 (by omega)
      rwa [HL0.out] at this)
    have HRF : Hid (∀ W, Below w.heap.size w W → Calls Tryd.prog 14 #[.slice a0 n0 c0] W (FieldsOut W.heap.size l W)) := Lib.hid (fun W hb => by
      obtain ⟨lb, lo, h1, h2, h3, h4, h5⟩ := RowB.place (H0.out.below hb)
      have := rFields_any a0 lb lo c0 l W h1 h2 h3 h4 h5 (by omega) H0.out.lt
      rwa [HL0.out] at this)
    have HLL := Lib.hid hll
    clear hll
    go_enter Tryd.func3, Tryd.ntmps3
    go_wp2_with fail
    refine (own_any _ l w 71 H0.out (by have := HLL.out; omega)).mono ?_
    rintro e w1 ⟨o, rfl, ho, hb1⟩
    have HO := Lib.hid ho
    have HB1 := Lib.hid hb1
    have hs1 := hb1.size
    clear ho hb1
    go_wp2_with fail
    refine (HAW.out _).mono ?_
    rintro e w2 ⟨rfl, hb2⟩
    have HO2 := Lib.hid (HO.out.below hb2)
    have HB2 := Lib.hid (HB1.out.trans (hb2.mono (by omega)))
    have hs2 := hb2.size
    clear hb2
    go_wp2_with fail
    refine (split_any _ l w2 (HO2.out.row H0.out.lt) (by have := HLL.out; omega)).mono ?_
    rintro e w3 ⟨rfl, hb3⟩
    have HO3 := Lib.hid (HO2.out.below hb3)
    have HB3 := Lib.hid (HB2.out.trans (hb3.mono (by omega)))
    have hs3 := hb3.size
    clear hb3
    go_wp2_with fail
    refine (HRS.out w3 HB3.out).mono ?_
    rintro e w4 ⟨rfl, hb4⟩
    have HO4 := Lib.hid (HO3.out.below hb4)
    have HB4 := Lib.hid (HB3.out.trans (hb4.mono (by omega)))
    have hs4 := hb4.size
    clear hb4
    generalize splitS l = K at *
    go_wp2_with fail
    refine (fields_any _ l w4 (HO4.out.row H0.out.lt) (by have := HLL.out; omega)).mono ?_
    rintro e w5 ⟨va, rfl, hva, hb5⟩
    have HO5 := Lib.hid (HO4.out.below hb5)
    have HB5 := Lib.hid (HB4.out.trans (hb5.mono (by omega)))
    have HVA := Lib.hid hva
    have hs5 := hb5.size
    clear hb5 hva
    go_wp2_with fail
    refine (HRF.out w5 HB5.out).mono ?_
    rintro e w6 ⟨vb, rfl, hvb, hb6⟩
    have HO6 := Lib.hid (HO5.out.below hb6)
    have HB6 := Lib.hid (HB5.out.trans (hb6.mono (by omega)))
    have HVA6 := Lib.hid (OwnT.below HVA.out hb6 (Nat.le_refl _))
    have HVB := Lib.hid hvb
    have hs6 := hb6.size
    clear hb6 hvb
    go_wp2_with fail
    refine (plainT_yes HVA6.out HVB.out (by have := fieldsS_len l; have := HLL.out; simp [toldS]; omega)).mono ?_
    rintro e w7 ⟨rfl, hb7⟩
    have HO7 := Lib.hid (HO6.out.below hb7)
    have HB7 := Lib.hid (HB6.out.trans (hb7.mono (by omega)))
    have hs7 := hb7.size
    clear hb7
    go_wp2_with fail
    refine (kept_any HO7.out (H0.out.below HB7.out) (by have := HLL.out; omega)).mono ?_
    rintro e w8 ⟨rfl, hb8⟩
    have HB8 := Lib.hid (HB7.out.trans (hb8.1.mono (by omega)))
    clear hb8
    go_wp2_with fail
    go_ret
    exact ⟨rfl, HB8.out⟩
end Go.Proofs.YtlfdcocaedeneaaDoor
