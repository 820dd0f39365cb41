/-
  A strings.Builder in a block of its own: copyCheck and WriteByte.
-/
import Derived.Test.YtcddppgnmephnaaDoorRune
namespace Go.Proofs.YtcddppgnmephnaaDoor
set_option linter.unusedVariables false
open Go.RowKit Go.Lib

theorem lies33b : liesAt Tryd.prog Tryd.prog.depth 33 (2 / Tryd.prog.cellsOf 33) 0 33 1 = true := by kernel_rfl

/-- a builder in block b, as a walk wants it -/
theorem bldF_at {a : Value} {w : World} {B b : Nat} {bs : List Value} (h : BuilderAtF 33 5 B b a bs w) : ∃ v, w.heap[b]? = some (.cells #[a, v] 33 (0, 0)) ∧ w.ownsRowF B 5 1 v bs.length bs ∧ v.ownBlock ≠ some b ∧ B ≤ b ∧ w.cell? ⟨b, 0, none⟩ = some a ∧ w.cell? ⟨b, 1, none⟩ = some v ∧ w.frozen? ⟨b, 0, none⟩ = false ∧ w.frozen? ⟨b, 1, none⟩ = false ∧ w.shape? b = some (33, 2) := by
  obtain ⟨hB, v, hb, hown, hne⟩ := h
  have c : ∀ j, w.cell? ⟨b, j, none⟩ = (#[a, v] : Array Value)[j]? := fun j => cell_of_row _ _ j _ 33 (0, 0) hb
  have x : ∀ j, w.frozen? ⟨b, j, none⟩ = false := fun j => frozen_of_row _ _ _ _ _ hb
  exact ⟨v, hb, hown, hne, hB, c 0, c 1, x 0, x 1, by simp [World.shape?, hb]⟩

set_option maxHeartbeats 1000000 in
set_option maxRecDepth 100000 in
theorem lcopy_any (B b : Nat) (bs : List Value) (w : World) (h : IsBuilderF 33 5 B b bs w) :
    Calls Tryd.prog 40 #[.pointer (some ⟨b, 0, none⟩)] w fun e w' => e = .returned (.tuple #[]) ∧ BuilderAtF 33 5 B b (.pointer (some ⟨b, 0, none⟩)) bs w' ∧ Below B w w' ∧ OthersKept 5 (some b) w w' := by
  obtain ⟨j, hj, hjs⟩ := Option.map_eq_some_iff.1 info33
  rcases h with h | h
  · obtain ⟨v, hb, hown, hne, hB, c0, c1, x0, x1, hsh⟩ := bldF_at h
    have H := Lib.hid (show BuilderAtF 33 5 B b (.pointer (some ⟨b, 0, none⟩)) bs (w.setCell ⟨b, 0, none⟩ (.pointer (some ⟨b, 0, none⟩))) from ⟨hB, v, heap_setCell_same w b 0 _ _ _ hb, ownF_set hown hne, hne⟩)
    clear h hb hown hne
    go_enter Tryd.func40, Tryd.ntmps40
    go_wp2
    rw [Lib.run_to_unsafe w ⟨b, 0, none⟩ Tryd.underlying31 Tryd.underlying68 hj (by rw [hjs]; decide) hsh (by decide : (0 : Nat) < 2)]
    simp only [Result.andThen]
    rw [Oper.upon_value]
    go_wp2
    rw [run_callFunc_extern Tryd.func43 (by kernel_rfl) (by kernel_rfl) (by kernel_rfl) (e := Extern.AbiNoEscape.same) (by kernel_rfl)]
    rw [Lib.run_noEscape]
    simp only [Result.andThen]
    rw [Oper.upon_value]
    go_wp2
    rw [Lib.run_from_unsafe w ⟨b, 0, none⟩ Tryd.underlying68 Tryd.underlying31 hj hsh lies33b]
    simp only [Result.andThen]
    rw [Oper.upon_value]
    go_wp2
    go_end0
    exact ⟨rfl, H.out, (Below.refl B w).setCell (p := ⟨b, 0, none⟩) hB _, (OthersKept.refl 5 (some b) w).setCell ⟨b, 0, none⟩ rfl _⟩
  · obtain ⟨v, hb, hown, hne, hB, c0, c1, x0, x1, hsh⟩ := bldF_at h
    have H := Lib.hid h
    clear h hb hown hne
    go_enter Tryd.func40, Tryd.ntmps40
    go_wp2
    rw [Lib.run_neq_ptr_same w _ Tryd.underlying31 hj]
    go_wp2
    go_end0
    exact ⟨rfl, H.out, Below.refl B w, OthersKept.refl 5 (some b) w⟩

set_option maxHeartbeats 1000000 in
set_option maxRecDepth 100000 in
theorem lwb_any (B b : Nat) (bs : List Value) (z : Int) (w : World) (h : IsBuilderF 33 5 B b bs w) (hl : bs.length + 1 ≤ 100000000) :
    Calls Tryd.prog 33 #[.pointer (some ⟨b, 0, none⟩), .int .u8 z] w fun e w' => e = .returned .nilIface ∧ BuilderAtF 33 5 B b (.pointer (some ⟨b, 0, none⟩)) (bs ++ [.int .u8 z]) w' ∧ Below B w w' ∧ OthersKept 5 (some b) w w' := by
  obtain ⟨i0, hi, hz0, hz1, hz2⟩ := info_parts info5
  have hcc := lcopy_any B b bs w h
  clear h
  go_enter Tryd.func33, Tryd.ntmps33
  go_wp2_with (go_at_call 40; refine hcc.mono ?_)
  rintro e w1 ⟨rfl, h1, hb1, hk1⟩
  obtain ⟨v, hb, hown, hne, hB, c0, c1, x0, x1, hsh⟩ := bldF_at h1
  have hlt : b < w1.heap.size := (Array.getElem?_eq_some_iff.1 hb).1
  have HF := Lib.hid (And.intro hb1 hk1)
  have HB := Lib.hid hb
  have HN := Lib.hid hne
  clear hb1 hk1 h1 hsh hb hne
  go_wp2_with (at_builtin; refine wpList_append_ownF _ rfl _ _ 29 rfl B 5 i0 (.int .u8 0) 1 1 Tryd.underlying29 hi hz0 hz1 hz2 rfl (by decide) _ _ _ rfl (hown.alloc _) ⟨w1.heap.size, 0, none⟩ 1 1 [.int .u8 z] rfl rfl ?c1 ?c2 ?c3 ?c4 ?c5 ?_)
  case c1 =>
    intro j u hj
    match j, hj with
    | 0, hj => simp at hj; subst hj; simp [Addr.add]
  case c2 => intro u hu; simp at hu; subst hu; rfl
  case c3 => unfold maxLen; omega
  case c4 => omega
  case c5 => simp; omega
  intro v' w2 hown' hgrow _
  have hb2 : w2.heap[b]? = some (.cells #[.pointer (some ⟨b, 0, none⟩), v] 33 (0, 0)) := by
    rw [hgrow.block b (by simp; omega) (fun e => HN.out e.symm), Lib.alloc_old w1 _ b hlt]
    exact HB.out
  have d0 : w2.cell? ⟨b, 0, none⟩ = some (.pointer (some ⟨b, 0, none⟩)) := by rw [Lib.cell_of_heap hb2]; rfl
  have d1 : w2.cell? ⟨b, 1, none⟩ = some v := by rw [Lib.cell_of_heap hb2]; rfl
  have f1 : w2.frozen? ⟨b, 1, none⟩ = false := Lib.frozen_of_heap hb2 1
  have hne' : v'.ownBlock ≠ some b := ownBlock_neF hown' hb2 (by decide)
  obtain ⟨g, cap, rfl⟩ : ∃ g cap, v' = .slice (some ⟨g, 0, none⟩) (bs.length + 1) cap := by
    rcases hown'.2 with ⟨_, h0⟩ | ⟨g, cap, cur, fz, hv, _⟩
    · omega
    · exact ⟨g, cap, hv⟩
  go_wp2
  go_ret
  refine ⟨rfl, ⟨hB, _, heap_setCell_same w2 b 1 _ _ _ hb2, ?_, hne'⟩, ?_, ?_⟩
  · simp only [List.length_append, List.length_singleton]
    exact ownF_set hown' hne'
  · exact HF.out.1.trans ((((Below.refl B w1).alloc (by omega) _).grown hgrow (by simp; omega) (fun k hk => (hown.lt k hk).1)).setCell (p := ⟨b, 1, none⟩) hB _)
  · exact HF.out.2.trans ((((OthersKept.refl 5 (some b) w1).alloc _).grown hgrow (Lib.ownsRowF_kind (hown.alloc _))).setCell ⟨b, 1, none⟩ rfl _)
end Go.Proofs.YtcddppgnmephnaaDoor
