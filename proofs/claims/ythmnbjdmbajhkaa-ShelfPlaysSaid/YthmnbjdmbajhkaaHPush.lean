/-
  heap.Push, whatever the order holds.
-/
import Derived.Test.YthmnbjdmbajhkaaGrow
namespace Go.Proofs.Ythmnbjdmbajhkaa
set_option linter.unusedVariables false
open Go.RowKit
attribute [local go_sem] Oper.semAt_some

theorem Beside.trans' {own own2 : Nat → Prop} {a b c : World} (h : Beside own a b) (k : Beside own2 b c) (ho : ∀ i, i < a.heap.size → own2 i → own i) : Beside own a c :=
  ⟨k.os.trans h.os, k.tape.trans h.tape, k.output.trans h.output, Nat.le_trans h.size k.size, fun i hi hn => (k.block i (Nat.lt_of_lt_of_le hi h.size) (fun e => hn (ho i hi e))).trans (h.block i hi hn)⟩

set_option maxRecDepth 100000 in
set_option maxHeartbeats 4000000 in
theorem hpush_gen (p ty : Nat) (cs : Array Value) (r : Option Addr) (cap : Nat) (L : List Th) (t : Th) (pl : Int) (w : World) (hp : At w p (.cells cs ty (0, 0))) (hc : cs[3]? = some (.slice r L.length cap)) (hO : OrdS w r cap L) (ht : At w t.blk (.cells (thC t pl) 60 (0, 0)))
    (hpt : p ≠ t.blk) (hpo : ¬ sOwn r L p) (hto : ¬ sOwn r L t.blk) (hL : L.length ≤ 999999) :
    Calls Try.prog 23 #[.iface 62 (.pointer (some ⟨p, 3, none⟩)), .iface 57 (.pointer (some ⟨t.blk, 0, none⟩))] w fun e w' => e = .returned (.tuple #[]) ∧
      ∃ og' cap', At w' p (.cells (cs.setIfInBounds 3 (.slice (some ⟨og', 0, none⟩) (L.length + 1) cap')) ty (0, 0)) ∧ cap' ≤ maxLen ∧ Ord w' og' cap' (upL (L ++ [t]) L.length) ∧ (upL (L ++ [t]) L.length).length = L.length + 1 ∧ (∀ x ∈ upL (L ++ [t]) L.length, x ∈ L ++ [t]) ∧ Beside (fun k => k = p ∨ k = t.blk ∨ sOwn r L k) w w' ∧ ((∃ og, r = some ⟨og, 0, none⟩ ∧ og' = og) ∨ w.heap.size ≤ og') := by
  have HP := Lib.hid (push_any p ty cs r cap L t pl w hp hc hO ht hpt hpo hto hL)
  have hpl := hp.lt
  have htl := ht.lt
  have hcs : 3 < cs.size := (Array.getElem?_eq_some_iff.1 hc).1
  have HPO := Lib.hid hpo
  clear hp hc hO ht hpo hto
  have hi := inv_push
  go_enter Try.func23, Try.ntmps23
  go_wp2_with fail
  refine HP.out.mono ?_
  rintro e w1 ⟨rfl, og', cap', hp1, hm1, ho1, hb1, hat1⟩
  have hc1 : w1.cell? ⟨p, 3, none⟩ = some (.slice (some ⟨og', 0, none⟩) (L ++ [t]).length cap') := by
    rw [hp1.cell 3 _ (by rw [Array.getElem?_setIfInBounds_self_of_lt hcs])]
    simp
  have hnp : og' ≠ p := by
    rintro rfl
    rcases hat1 with ⟨og, e, k⟩ | h
    · exact HPO.out (.inl ⟨og, e, k⟩)
    · omega
  have hpo1 : ¬ ordOwn og' (L ++ [t]) p := by
    rintro (h | ⟨x, hx, e⟩)
    · exact hnp h.symm
    · rcases List.mem_append.1 hx with hx | hx
      · exact HPO.out (.inr ⟨x, hx, e⟩)
      · obtain rfl := List.mem_singleton.1 hx
        exact hpt e.symm
  have HU := Lib.hid (up_any p og' cap' L.length (L ++ [t]) w1 hc1 hpo1 ho1 (by simp) (by simp; omega))
  have HP1 := Lib.hid hp1
  have HB1 := Lib.hid hb1
  have HAT := Lib.hid hat1
  have hc2 : w1.cell? ⟨p, 3, none⟩ = some (.slice (some ⟨og', 0, none⟩) (L.length + 1) cap') := by rw [hc1]; simp
  have hl := meth_len ⟨p, 3, none⟩ w1 _ (load54 hc2)
  have HPO1 := Lib.hid hpo1
  clear hp1 ho1 hb1 hat1 hc1 hc2 hpo1 hi
  go_wp2_with fail
  refine (len_any _ _ _ _).mono ?_
  rintro e w2 ⟨rfl, rfl⟩
  go_wp2_with fail
  refine HU.out.mono ?_
  rintro e w3 ⟨rfl, ho3, hl3, hm3, hb3⟩
  go_wp2_with fail
  go_end0
  refine ⟨rfl, og', cap', HP1.out.beside hb3 HPO1.out, hm1, ho3, by rw [hl3]; simp, hm3, HB1.out.trans' hb3 ?_, HAT.out⟩
  rintro k hk (rfl | ⟨x, hx, rfl⟩)
  · rcases HAT.out with ⟨og, e, rfl⟩ | h
    · exact .inr (.inr (.inl ⟨_, e, rfl⟩))
    · omega
  · rcases List.mem_append.1 hx with hx | hx
    · exact .inr (.inr (.inr ⟨x, hx, rfl⟩))
    · obtain rfl := List.mem_singleton.1 hx
      exact .inr (.inl rfl)
end Go.Proofs.Ythmnbjdmbajhkaa
