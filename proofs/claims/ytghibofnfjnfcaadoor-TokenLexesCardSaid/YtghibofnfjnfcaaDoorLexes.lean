/-
  TokenLexes.
-/
import Derived.Test.YtghibofnfjnfcaaDoorRLex
import Derived.Test.YtghibofnfjnfcaaDoorOwn
import Derived.Test.YtghibofnfjnfcaaDoorLex
namespace Go.Proofs.YtghibofnfjnfcaaDoor
set_option linter.unusedVariables false
open Go.RowKit

set_option maxRecDepth 100000 in
set_option maxHeartbeats 4000000 in
theorem lexes_any (va : Value) (a : List Nat) (w : World) (ha : RowB w va a) (hla : a.length ≤ 140737488351232) (hv : RngV w) :
    Calls Tryd.prog 3 #[va] w fun e w' => e = .returned (.bool true) ∧ Below w.heap.size w w' := by
  obtain ⟨aa, ca, e1⟩ : ∃ x c, va = .slice x a.length c := by obtain ⟨x, len, c, e, h, _⟩ := ha; exact ⟨x, c, by rw [e, h]⟩
  subst e1
  have HA := Lib.hid ha
  have HV := Lib.hid hv
  have hkeep : ∀ w', Below w.heap.size w w' → RngV w' := fun w' hb => by obtain ⟨tp, q, h⟩ := HV.out; exact ⟨tp, q, (hb.cell (p := ⟨1, 0, none⟩) (World.block_lt_of_cell? w _ h)).trans h⟩
  have HKV := Lib.hid hkeep
  clear ha hv hkeep
  by_cases hbig : 65536 < a.length
  · have g1 : (65536 : Int) < (a.length : Int) := by omega
    go_enter Tryd.func3, Tryd.ntmps3
    go_wp2_with fail
    refine (awake_any w HV.out).mono ?_
    rintro e w2 ⟨rfl, hb2⟩
    go_wp2_with fail
    go_ret
    exact ⟨rfl, hb2⟩
  · have g1 : ¬ ((65536 : Int) < (a.length : Int)) := by omega
    have hlen : a.length ≤ 65536 := by omega
    clear hbig
    go_enter Tryd.func3, Tryd.ntmps3
    go_wp2_with fail
    refine (own_any _ a w 71 HA.out (by omega)).mono ?_
    rintro e w1 ⟨x, rfl, hx, hb1⟩
    have HX := Lib.hid hx
    have HB1 := Lib.hid hb1
    clear hx hb1
    go_wp2_with fail
    refine (lex_any _ a w1 (HX.out.row HA.out.lt) (by omega) (HKV.out _ HB1.out)).mono ?_
    rintro e w2 ⟨y, rfl, hy, hb2⟩
    have HY := Lib.hid hy
    have HB2 := Lib.hid (HB1.out.trans (hb2.mono HB1.out.size))
    have HX2 := Lib.hid (HX.out.below hb2)
    clear hy hb2 HX HB1
    go_wp2_with fail
    refine (rlex_any _ a w2 (HA.out.below HB2.out) (by omega)).mono ?_
    rintro e w3 ⟨z, rfl, hz, hb3⟩
    have HZ := Lib.hid hz
    have HB3 := Lib.hid (HB2.out.trans (hb3.mono HB2.out.size))
    have HX3 := Lib.hid (HX2.out.below hb3)
    have HY3 := Lib.hid (HY.out.same (w' := w3) fun g hg => hb3.block g (ownT_type HY.out g hg).1)
    clear hz hb3 HX2 HB2 HY
    go_wp2_with fail
    refine (awake_any w3 (HKV.out _ HB3.out)).mono ?_
    rintro e w4 ⟨rfl, hb4⟩
    have HB4 := Lib.hid (HB3.out.trans (hb4.mono HB3.out.size))
    have HX4 := Lib.hid (HX3.out.below hb4)
    have HY4 := Lib.hid (HY3.out.same (w' := w4) fun g hg => hb4.block g (ownT_type HY3.out g hg).1)
    have HZ4 := Lib.hid (HZ.out.same (w' := w4) fun g hg => hb4.block g (ownT_type HZ.out g hg).1)
    have HL := Lib.hid (lexS_len a)
    clear hb4 HX3 HY3 HZ HB3
    go_wp2_with fail
    refine (plainT_yes HY4.out HZ4.out (by have := HL.out; omega)).mono ?_
    rintro e w5 ⟨rfl, hb5⟩
    have HB5 := Lib.hid (HB4.out.trans (hb5.mono HB4.out.size))
    have HX5 := Lib.hid (HX4.out.below hb5)
    clear hb5 HX4 HB4 HY4 HZ4
    go_wp2_with fail
    refine (kept_any HX5.out (HA.out.below HB5.out) (by omega)).mono ?_
    rintro e w6 ⟨rfl, hs6⟩
    go_wp2_with fail
    go_ret
    exact ⟨rfl, HB5.out.trans (hs6.1.mono HB5.out.size)⟩
end Go.Proofs.YtghibofnfjnfcaaDoor
