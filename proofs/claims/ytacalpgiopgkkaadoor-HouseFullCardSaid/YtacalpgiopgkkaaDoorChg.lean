/-
  A mailbox is looked up and changed.
-/
import Derived.Test.YtacalpgiopgkkaaDoorBes
import Derived.Laws.EntriesVeiled
namespace Go.Proofs.YtacalpgiopgkkaaDoor
set_option linter.unusedVariables false
open Go.RowKit Go.MapKept
attribute [local go_sem] Oper.semAt_some

set_option maxRecDepth 100000 in
set_option maxHeartbeats 2000000 in
theorem change_30 (p m q b i c : Nat) (vd : Int) (L : List (ByteArray × Nat × Nat)) (s : ByteArray) (h0 : Value) (rest : List Value) (w : World) (R : Ending → World → Prop) (hR : ∀ e w', R e w' → ∃ z, e = .returned (.int .i64 z))
    (hp : At w p [.map (some m), .int .u32 vd] 38) (hm : BMap w m L c) (hs : atB L s = some (i, b)) (hq : At w q (h0 :: rest) 46)
    (hF : Calls Tryd.prog 13 #[.pointer (some ⟨b, 0, none⟩), .pointer (some ⟨q, 0, none⟩)] (w.setCell ⟨q, 0, none⟩ (.pointer (some ⟨p, 0, none⟩))) R) :
    Calls Tryd.prog 12 #[.pointer (some ⟨p, 0, none⟩), .string s, .func (.func 13) #[] #[], .pointer (some ⟨q, 0, none⟩)] w R := by
  have c0 := hp.cell 0 _ rfl
  have q0 := hq.cell 0 _ rfl
  have f0 := hq.free 0
  have hl := look_yes m c L s i b w hm hs
  have HF := Lib.hid hF
  clear hF hp hm hs hq
  go_enter Tryd.func12, Tryd.ntmps12
  go_wp2_with (go_at_call 13; refine HF.out.mono ?_; intro e w2 h2; obtain ⟨z, rfl⟩ := hR _ _ h2; have H2 := Lib.hid h2; clear h2)
  exact H2.out
set_option maxRecDepth 100000 in
set_option maxHeartbeats 2000000 in
theorem change_29 (p m q b i c : Nat) (vd : Int) (L : List (ByteArray × Nat × Nat)) (s : ByteArray) (h0 : Value) (rest : List Value) (w : World) (R : Ending → World → Prop) (hR : ∀ e w', R e w' → ∃ z, e = .returned (.int .i64 z))
    (hp : At w p [.map (some m), .int .u32 vd] 38) (hm : BMap w m L c) (hs : atB L s = some (i, b)) (hq : At w q (h0 :: rest) 46)
    (hF : Calls Tryd.prog 18 #[.pointer (some ⟨b, 0, none⟩), .pointer (some ⟨q, 0, none⟩)] (w.setCell ⟨q, 0, none⟩ (.pointer (some ⟨p, 0, none⟩))) R) :
    Calls Tryd.prog 12 #[.pointer (some ⟨p, 0, none⟩), .string s, .func (.func 18) #[] #[], .pointer (some ⟨q, 0, none⟩)] w R := by
  have c0 := hp.cell 0 _ rfl
  have q0 := hq.cell 0 _ rfl
  have f0 := hq.free 0
  have hl := look_yes m c L s i b w hm hs
  have HF := Lib.hid hF
  clear hF hp hm hs hq
  go_enter Tryd.func12, Tryd.ntmps12
  go_wp2_with (go_at_call 18; refine HF.out.mono ?_; intro e w2 h2; obtain ⟨z, rfl⟩ := hR _ _ h2; have H2 := Lib.hid h2; clear h2)
  exact H2.out
end Go.Proofs.YtacalpgiopgkkaaDoor
