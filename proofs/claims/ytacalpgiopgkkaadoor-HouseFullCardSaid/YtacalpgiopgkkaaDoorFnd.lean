/-
  One mailbox more.
-/
import Derived.Test.YtacalpgiopgkkaaDoorBes
namespace Go.Proofs.YtacalpgiopgkkaaDoor
set_option linter.unusedVariables false
open Go.RowKit Go.MapKept
attribute [local go_sem] Oper.semAt_some

theorem BMap.ne {w : World} {p m c : Nat} {l : List Value} {t : TypeId} {L : List (ByteArray × Nat × Nat)} (hm : BMap w m L c) (hp : At w p l t) : p ≠ m := by
  rintro rfl
  unfold BMap At at *
  rw [hp] at hm
  cases hm
set_option maxRecDepth 100000 in
set_option maxHeartbeats 2000000 in
theorem found_any (w : World) (p m c vd : Nat) (L : List (ByteArray × Nat × Nat)) (s : ByteArray) (hp : At w p [.map (some m), .int .u32 (vd : Nat)] 38) (hm : BMap w m L c) (hs : atB L s = none) (hvd : vd < 4294967295) :
    Calls Tryd.prog 10 #[.pointer (some ⟨p, 0, none⟩), .string s] w fun e w' => ∃ v, e = .returned v ∧ ∃ b, At w' p [.map (some m), .int .u32 (vd + 1 : Nat)] 38 ∧ BMap w' m (L ++ [(s, b, c)]) (c + 1) ∧ At w' b [.int .u32 (vd + 1 : Nat), .int .u64 1, .slice none 0 0] 59 ∧ w.heap.size ≤ b ∧ Beside (fun k => k = p ∨ k = m) w w' := by
  have hpm := hm.ne hp
  have c0 := hp.cell 0 _ rfl
  have c1 := hp.cell 1 _ rfl
  have f1 := hp.free 1
  have he := eql_some m w
  have hw1 : IntKind.u32.wrap ((vd : Int) + 1) = (vd : Int) + 1 := IntWalk.u32_in _ ⟨by omega, by omega⟩
  have hp3 := hp.set 1 (.int .u32 ((vd : Int) + 1))
  simp only [List.set] at hp3
  have hm3 : BMap (w.setCell ⟨p, 1, none⟩ (.int .u32 ((vd : Int) + 1))) m L c := (heap_setCell_other _ ⟨p, 1, none⟩ m _ (by simpa using Ne.symm hpm)).trans hm
  have hb3 : Beside (fun k => k = p ∨ k = m) w (w.setCell ⟨p, 1, none⟩ (.int .u32 ((vd : Int) + 1))) := (Beside.refl _ w).setCell (p := ⟨p, 1, none⟩) (.inl (.inl rfl)) _
  have hml : m < w.heap.size := (Array.getElem?_eq_some_iff.1 hm).1
  have hs3 : (w.setCell ⟨p, 1, none⟩ (.int .u32 ((vd : Int) + 1))).heap.size = w.heap.size := by simp
  clear hp hm
  go_enter Tryd.func10, Tryd.ntmps10
  go_upto_region 3 with fail
  generalize w.setCell ⟨p, 1, none⟩ (.int .u32 ((vd : Int) + 1)) = W3 at *
  have hm4 : BMap (W3.alloc (.cells #[.int .u32 ((vd : Int) + 1), .int .u64 1, .slice none 0 0] 59)).drew m L c := (Below.heap_alloc _ _ _ (show m < W3.heap.size by omega)).trans hm3
  have hp4 : At (W3.alloc (.cells #[.int .u32 ((vd : Int) + 1), .int .u64 1, .slice none 0 0] 59)).drew p [.map (some m), .int .u32 ((vd : Int) + 1)] 38 := (Below.heap_alloc _ _ _ (show p < W3.heap.size from hp3.lt)).trans hp3
  have hq4 : At (W3.alloc (.cells #[.int .u32 ((vd : Int) + 1), .int .u64 1, .slice none 0 0] 59)).drew W3.heap.size [.int .u32 ((vd : Int) + 1), .int .u64 1, .slice none 0 0] 59 := At.new W3 [.int .u32 ((vd : Int) + 1), .int .u64 1, .slice none 0 0] 59
  have hb4 : Beside (fun k => k = p ∨ k = m) w (W3.alloc (.cells #[.int .u32 ((vd : Int) + 1), .int .u64 1, .slice none 0 0] 59)).drew := Beside.drew (hb3.alloc _)
  have hput := put_b m c L s W3.heap.size _ hm4 hs
  have d0 : W3.drew.cell? ⟨p, 0, none⟩ = some (.map (some m)) := hp3.cell 0 _ rfl
  have d1 : W3.drew.cell? ⟨p, 1, none⟩ = some (.int .u32 ((vd : Int) + 1)) := hp3.cell 1 _ rfl
  have e0 := hp4.cell 0 _ rfl
  have e1 := hp4.cell 1 _ rfl
  have H4 := Lib.hid (And.intro hm4 (And.intro hp4 (And.intro hq4 (And.intro hb4 (And.intro hs3 hml)))))
  have HPM := Lib.hid hpm
  clear hm3 hp3 hb3 hm4 hp4 hq4 hb4 hs3 hml hpm
  go_region_law (fail)
  all_goals
    exact bodyPost_end (v := .tuple #[]) (by simp [results, Tryd.results10, go_sem]) rfl ⟨_, rfl, W3.heap.size, (setMap_other HPM.out).trans H4.out.2.1, by unfold BMap; rw [List.map_append]; exact setMap_same H4.out.1, (setMap_other (by have := H4.out.2.2.2.2; omega)).trans H4.out.2.2.1, by have := H4.out.2.2.2.2; omega, H4.out.2.2.2.1.setMap (.inl (.inr rfl)) _⟩
end Go.Proofs.YtacalpgiopgkkaaDoor
