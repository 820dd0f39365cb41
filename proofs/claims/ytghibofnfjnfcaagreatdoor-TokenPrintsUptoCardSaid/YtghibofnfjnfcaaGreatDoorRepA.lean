/-
  strings.Replacer: its cells; NewReplacer of the four texts.
-/
import Derived.Test.YtghibofnfjnfcaaGreatDoorJoinW
import Derived.OwnWalk
import Derived.Laws.Tables
import Derived.Deep.WholeRow
import Derived.Laws.AppendOwnNone
import Derived.Laws.OwnMore
namespace Go.Proofs.YtghibofnfjnfcaaGreatDoor
set_option linter.unusedVariables false
open Go.RowKit

/-- texts as cells -/
def bsV (T : List ByteArray) : List Value := T.map Value.string
def OwnS (w : World) (B : Nat) (v : Value) (T : List ByteArray) : Prop := w.ownsRow B 9 1 v T.length (bsV T)
theorem Tryz.info9 : (Tryz.prog.info? 9).map (fun i => (i.zero, i.size, i.bytes)) = some (some (.string ⟨#[]⟩), 1, 16) := by kernel_rfl
def oldnew : List ByteArray := [⟨#[92]⟩, ⟨#[92, 92]⟩, ⟨#[34]⟩, ⟨#[92, 34]⟩]
theorem owns_keepZ {w w' : World} {B e size n S : Nat} {v : Value} {xs : List Value} (h : w.ownsRow B e size v n xs) (hb : Below S w w') (hs : ∀ k, v.ownBlock = some k → k < S) : w'.ownsRow B e size v n xs := by
  refine ⟨h.1, ?_⟩
  rcases h.2 with h2 | ⟨g, cap, cur, rfl, hg, hh, r⟩
  · exact .inl h2
  · exact .inr ⟨g, cap, cur, rfl, hg, by rw [hb.block g (hs g rfl)]; exact hh, r⟩
theorem owns_ltZ {w : World} {B e size n : Nat} {v : Value} {xs : List Value} (h : w.ownsRow B e size v n xs) : ∀ k, v.ownBlock = some k → k < w.heap.size := fun k hk => (World.ownsRow.lt h k hk).2
/-- 'append(nil, l...)' of a row of texts -/
theorem run_appS {w : World} {v s : Value} {S T : List ByteArray} {B g cap : Nat} (ty : TypeId) (hs : OwnS w B s S) (hB : B ≤ w.heap.size) (hv : v = .slice (some ⟨g, 0, none⟩) T.length cap) (hc : ∀ j (h : j < T.length), w.cell? ⟨g, j, none⟩ = some (.string T[j])) (hn : S.length + T.length ≤ 1000000) :
    ∃ v' w', (Builtin.append_ #[65, 65] ty #[s, v]).run Tryz.prog w = .ok v' w' ∧ OwnS w' B v' (S ++ T) ∧ Below B w w' ∧ w.grownBy w' s.ownBlock := by
  obtain ⟨i0, hi, hz0, hz1, hz2⟩ := info_parts Tryz.info9
  subst hv
  obtain ⟨v', w', hr, ho, hg, -⟩ := run_append_own (P := Tryz.prog) w B 65 ty 9 i0 _ 1 16 Tryz.underlying65 hi hz0 hz1 hz2 rfl (by decide) s S.length (bsV S) hs ⟨g, 0, none⟩ T.length cap (bsV T) (by simp [bsV]) (fun j u hj => by
    obtain ⟨hlt, rfl⟩ := List.getElem?_eq_some_iff.1 hj
    have hj' : j < T.length := by simpa [bsV] using hlt
    rw [Addr.add_lit, Nat.zero_add, hc j hj']
    simp [bsV]) (by intro u hu; obtain ⟨s, _, rfl⟩ := List.mem_map.1 hu; rfl) (by simp only [maxLen]; omega) (by omega) hB
  refine ⟨v', w', hr, by unfold OwnS; rw [bsV, List.map_append, List.length_append]; exact ho, ?_, hg⟩
  exact ⟨hg.os, hg.tape, hg.output, hg.size, fun k hk => hg.block k (by omega) (fun e => by
    have := (World.ownsRow.lt hs k (by rw [e])).1
    omega)⟩
theorem wpList_runZ {ops : Array Oper} {rest : List Oper} {o : Oper} {a : Act} {Q : Exit → Act → World → Prop} {w : World} (hgd : o.guard = none) (s x : Operand) (t : TypeId)
    (ho : o.op = .call { callee := .builtin .append, args := #[s, x], argTypes := #[t, t] }) {v y : Value} (hs : a.eval s = v) (hx : a.eval x = y) {R : Value → World → Prop}
    (hr : ∃ v' w', (Builtin.append_ #[t, t] o.type #[v, y]).run Tryz.prog w = .ok v' w' ∧ R v' w') (h : ∀ v' w', R v' w' → wpList Tryz.prog ops Q rest (a.put o.dst v') w') : wpList Tryz.prog ops Q (o :: rest) a w := by
  refine wpList_plain hgd fun K hK => ?_
  obtain ⟨v', w', hr, hR⟩ := hr
  unfold Oper.wp
  simp [execOp, ho, resolve, invoke, builtin, hs, hx, hr, Result.andThen]
  exact hK _ _ (h v' w' hR)

/-- a Replacer's block: done, the lock's state, its semaphore, the algorithm, the pairs -/
def R5 (w : World) (P : Nat) (d s m : Int) (r o : Value) : Prop := w.heap[P]? = some (.cells #[.int .u32 d, .int .i32 s, .int .u32 m, r, o] 81 (0, 0))
theorem R5.lt {w : World} {P : Nat} {d s m : Int} {r o : Value} (h : R5 w P d s m r o) : P < w.heap.size := (Array.getElem?_eq_some_iff.1 h).1
theorem R5.cells {w : World} {P : Nat} {d s m : Int} {r o : Value} (h : R5 w P d s m r o) : w.cell? ⟨P, 0, none⟩ = some (.int .u32 d) ∧ w.cell? ⟨P, 1, none⟩ = some (.int .i32 s) ∧ w.cell? ⟨P, 2, none⟩ = some (.int .u32 m) ∧ w.cell? ⟨P, 3, none⟩ = some r ∧ w.cell? ⟨P, 4, none⟩ = some o := by
  have k := fun j => cell_of_row w P j _ _ _ h
  exact ⟨k 0, k 1, k 2, k 3, k 4⟩
theorem R5.froz {w : World} {P : Nat} {d s m : Int} {r o : Value} (h : R5 w P d s m r o) (j : Nat) : w.frozen? ⟨P, j, none⟩ = false := frozen_of_row _ _ _ _ _ h
theorem R5.below {w w' : World} {P S : Nat} {d s m : Int} {r o : Value} (h : R5 w P d s m r o) (hb : Below S w w') (hp : P < S) : R5 w' P d s m r o := by unfold R5; rw [hb.block _ hp]; exact h
theorem R5.setD {w : World} {P : Nat} {d s m : Int} {r o : Value} (h : R5 w P d s m r o) (x : Int) : R5 (w.setCell ⟨P, 0, none⟩ (.int .u32 x)) P x s m r o := heap_setCell_same w P 0 _ _ _ h
theorem R5.setS {w : World} {P : Nat} {d s m : Int} {r o : Value} (h : R5 w P d s m r o) (x : Int) : R5 (w.setCell ⟨P, 1, none⟩ (.int .i32 x)) P d x m r o := heap_setCell_same w P 1 _ _ _ h
theorem R5.setR {w : World} {P : Nat} {d s m : Int} {r o : Value} (h : R5 w P d s m r o) (x : Value) : R5 (w.setCell ⟨P, 3, none⟩ x) P d s m x o := heap_setCell_same w P 3 _ _ _ h
theorem R5.setO {w : World} {P : Nat} {d s m : Int} {r o : Value} (h : R5 w P d s m r o) (x : Value) : R5 (w.setCell ⟨P, 4, none⟩ x) P d s m r x := heap_setCell_same w P 4 _ _ _ h
theorem below_setZ {B : Nat} {a w : World} (h : Below B a w) {p j : Nat} (hp : B ≤ p) (v : Value) : Below B a (w.setCell ⟨p, j, none⟩ v) :=
  h.trans ⟨rfl, rfl, rfl, by simp [World.setCell], fun k hk => Below.heap_setCell _ _ _ _ (by rintro rfl; exact absurd hk (by simpa using hp))⟩

set_option maxRecDepth 100000 in
set_option maxHeartbeats 2000000 in
theorem new_any (g : Nat) (w : World) (hc : ∀ j (h : j < oldnew.length), w.cell? ⟨g, j, none⟩ = some (.string oldnew[j])) :
    Calls Tryz.prog 32 #[.slice (some ⟨g, 0, none⟩) 4 4] w fun e w' => ∃ P h c, e = .returned (.pointer (some ⟨P, 0, none⟩)) ∧ w.heap.size ≤ P ∧ R5 w' P 0 0 0 .nilIface (.slice (some ⟨h, 0, none⟩) 4 c) ∧ OwnS w' w.heap.size (.slice (some ⟨h, 0, none⟩) 4 c) oldnew ∧ h ≠ P ∧ Below w.heap.size w w' := by
  have HC := Lib.hid hc
  clear hc
  go_enter Tryz.func32, Tryz.ntmps32
  go_wp2_with (at_builtin
               refine wpList_runZ rfl (.const (.slice none 0 0)) (.tmp 8) 65 rfl rfl rfl (run_appS 65 (S := []) (T := oldnew) (World.ownsRow_nil w w.heap.size 9 1) (Nat.le_refl _) rfl HC.out (by decide)) ?_
               rintro o1 w1 ⟨ho1, hb1, -⟩
               obtain ⟨h, c, cur, rfl, hh, hl, -⟩ := ho1.2.resolve_left (by rintro ⟨_, h⟩; cases h)
               have HO1 := Lib.hid ho1
               have HB1 := Lib.hid hb1
               have hhl : h < w1.heap.size := (Array.getElem?_eq_some_iff.1 hl).1
               clear ho1 hb1 hl)
  have hr : R5 (w1.alloc (.cells #[.int .u32 0, .int .i32 0, .int .u32 0, .nilIface, .slice (some ⟨h, 0, none⟩) oldnew.length c] 81)) w1.heap.size 0 0 0 .nilIface (.slice (some ⟨h, 0, none⟩) 4 c) := heap_alloc_new w1 _
  refine bodyPost_ret (v := .pointer (some ⟨w1.heap.size, 0, none⟩)) (by simp [results, Tryz.results32, go_sem]) rfl ⟨_, h, c, rfl, HB1.out.size, hr, ?_, by omega, HB1.out.alloc HB1.out.size _⟩
  have := owns_keepZ HO1.out ((Below.refl w1.heap.size w1).alloc (Nat.le_refl _) (.cells #[.int .u32 0, .int .i32 0, .int .u32 0, .nilIface, .slice (some ⟨h, 0, none⟩) oldnew.length c] 81)) (owns_ltZ HO1.out)
  exact this
end Go.Proofs.YtghibofnfjnfcaaGreatDoor
