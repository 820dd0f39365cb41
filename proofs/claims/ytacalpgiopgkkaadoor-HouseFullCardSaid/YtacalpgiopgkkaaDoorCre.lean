/-
  Create.
-/
import Derived.Test.YtacalpgiopgkkaaDoorFnd
namespace Go.Proofs.YtacalpgiopgkkaaDoor
set_option linter.unusedVariables false
open Go.RowKit Go.MapKept
attribute [local go_sem] Oper.semAt_some

/-- a name that mailboxes may have, wherever it is asked -/
def RightOk (w : World) (s : ByteArray) : Prop := ∀ W, Below w.heap.size w W → Calls Tryd.prog 14 #[.string s] W fun e W' => e = .returned (.bool true) ∧ Below W.heap.size W W'
theorem len_b (m c : Nat) (L : List (ByteArray × Nat × Nat)) (w : World) (h : BMap w m L c) : (Builtin.len_ #[36] 3 #[.map (some m)]).run Tryd.prog w = .ok (.int .i64 (L.length : Nat)) w := by
  unfold BMap at h
  simp [Builtin.len_, run_underlying Tryd.underlying36, getObj, run_getMap _ _ _ _ _ h, go_sem]
set_option maxRecDepth 100000 in
set_option maxHeartbeats 2000000 in
theorem create_ok (w : World) (p m c vd : Nat) (L : List (ByteArray × Nat × Nat)) (s : ByteArray) (hp : At w p [.map (some m), .int .u32 (vd : Nat)] 38) (hm : BMap w m L c) (hs : atB L s = none) (hvd : vd < 4294967295) (hL : L.length < 24) (hR : RightOk w s) :
    Calls Tryd.prog 7 #[.pointer (some ⟨p, 0, none⟩), .string s] w fun e w' => e = .returned (.int .i64 0) ∧ ∃ b, At w' p [.map (some m), .int .u32 (vd + 1 : Nat)] 38 ∧ BMap w' m (L ++ [(s, b, c)]) (c + 1) ∧ At w' b [.int .u32 (vd + 1 : Nat), .int .u64 1, .slice none 0 0] 59 ∧ w.heap.size ≤ b ∧ Beside (fun k => k = p ∨ k = m) w w' := by
  have HR := Lib.hid (hR w (Below.refl _ _))
  have H0 := Lib.hid (And.intro hp hm)
  have hL2 : (L.length : Int) < 24 := by omega
  have hv2 : ((vd : Int) == 4294967295) = false := beq_eq_false_iff_ne.2 (by omega)
  clear hp hm hR
  go_enter Tryd.func7, Tryd.ntmps7
  go_upto_region 5 with (go_at_call 14; refine HR.out.mono ?_; rintro e w1 ⟨rfl, hb1⟩; have hp1 := H0.out.1.below hb1; have hm1 := (hb1.block m (Array.getElem?_eq_some_iff.1 H0.out.2).1).trans H0.out.2; have hl := look_no m c L s w1 hm1 hs; have hn := len_b m c L w1 hm1; have c0 := hp1.cell 0 _ rfl; have c1 := hp1.cell 1 _ rfl; have HF := Lib.hid (found_any w1 p m c vd L s hp1 hm1 hs hvd); have HB := Lib.hid hb1; clear hp1 hm1 hb1)
  go_wp2_with (go_at_call 10; refine HF.out.mono ?_; rintro e w2 ⟨v, rfl, b, k1, k2, k3, k4, k5⟩; have HK := Lib.hid (And.intro k1 (And.intro k2 (And.intro k3 (And.intro k4 k5)))); clear k1 k2 k3 k4 k5)
  go_ret
  obtain ⟨k1, k2, k3, k4, k5⟩ := HK.out
  exact ⟨rfl, b, k1, k2, k3, Nat.le_trans HB.out.size k4, Beside.trans' (Beside.of_below HB.out (fun k h1 h2 => absurd h2 (by omega))) k5 (fun k h1 h2 => h2)⟩
set_option maxRecDepth 100000 in
set_option maxHeartbeats 2000000 in
theorem create_full (w : World) (p m c : Nat) (vd : Int) (L : List (ByteArray × Nat × Nat)) (s : ByteArray) (hp : At w p [.map (some m), .int .u32 vd] 38) (hm : BMap w m L c) (hs : atB L s = none) (hL : 24 ≤ L.length) (hR : RightOk w s) :
    Calls Tryd.prog 7 #[.pointer (some ⟨p, 0, none⟩), .string s] w fun e w' => e = .returned (.int .i64 4) ∧ Below w.heap.size w w' := by
  have HR := Lib.hid (hR w (Below.refl _ _))
  have H0 := Lib.hid (And.intro hp hm)
  have hL2 : (24 : Int) ≤ (L.length : Int) := by omega
  clear hp hm hR
  go_enter Tryd.func7, Tryd.ntmps7
  go_upto_region 5 with (go_at_call 14; refine HR.out.mono ?_; rintro e w1 ⟨rfl, hb1⟩; have hp1 := H0.out.1.below hb1; have hm1 := (hb1.block m (Array.getElem?_eq_some_iff.1 H0.out.2).1).trans H0.out.2; have hl := look_no m c L s w1 hm1 hs; have hn := len_b m c L w1 hm1; have c0 := hp1.cell 0 _ rfl; have c1 := hp1.cell 1 _ rfl; have HB := Lib.hid hb1; clear hp1 hm1 hb1)
  go_wp2_with fail
  go_ret
  exact ⟨rfl, HB.out⟩
end Go.Proofs.YtacalpgiopgkkaaDoor
