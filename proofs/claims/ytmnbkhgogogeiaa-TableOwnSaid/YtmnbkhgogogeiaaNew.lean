/-
  The contract of New.
-/
import Derived.Test.YtmnbkhgogogeiaaDisk
import Derived.Deep.Onto
import Derived.Deep.WholeRow
namespace Go.Proofs.Ytmnbkhgogogeiaa
set_option linter.unusedVariables false
open Go.RowKit

def zeros (n : Nat) : List Nat := List.replicate n 0
def zsec : Value := .agg (Array.replicate 64 (.int .u8 0))
theorem Try.info143 : (Try.prog.info? 143).map (fun i => (i.zero, i.size, i.bytes)) = some (some zsec, 64, 64) := by kernel_rfl

theorem secs_length (S : List (List Nat)) (h : ∀ s ∈ S, s.length = 64) : (secs S).length = S.length * 64 := by
  induction S with
  | nil => simp [secs]
  | cons s r ih =>
    have := ih (fun x hx => h x (by simp [hx]))
    simp only [secs, List.flatMap_cons, List.length_append, u8s_length, h s (by simp), List.length_cons] at this ⊢
    omega

theorem made_secs (n : Nat) : (madeCells zsec.cells (n * 64)).toList = secs (List.replicate n (zeros 64)) := by
  have h1 : ∀ c, (madeCells zsec.cells c).toList = List.replicate c (.int .u8 0) := by
    intro c
    apply List.ext_getElem
    · simp [madeCells]
    · intro i h1 h2
      have hz : zsec.cells.size = 64 := rfl
      have hlt : i % 64 < 64 := Nat.mod_lt _ (by decide)
      simp only [madeCells, Array.getElem_toList, Array.getElem_map, Array.getElem_range, List.getElem_replicate, hz]
      rw [getElem!_pos _ _ (by rw [hz]; exact hlt)]
      show (Array.replicate 64 (Value.int IntKind.u8 0))[i % 64]'(by simpa using hlt) = _
      simp
  rw [h1]
  induction n with
  | zero => simp [secs]
  | succ n ih =>
    have e : secs (List.replicate (n + 1) (zeros 64)) = u8s (zeros 64) ++ secs (List.replicate n (zeros 64)) := by simp [secs, List.replicate_succ]
    have e2 : u8s (zeros 64) = List.replicate 64 (.int .u8 0) := by simp [u8s, zeros]
    rw [e, ← ih, e2, List.replicate_append_replicate]
    congr 1
    omega

/-- n sectors are made -/
theorem make_secs {w : World} {ops : Array Oper} {rest : List Oper} {o : Oper} {a : Act} {Q : Exit → Act → World → Prop} (hg : o.guard = none) (l c : Operand) (T : TypeId) (E : TypeId) (hop : o.op = Op.makeSlice T l c) (i0 : TypeInfo) (hT : Try.prog.underlying T = some (.slice E)) (hi : Try.prog.info? E = some i0) (hz : i0.zero = some zsec) (hs : i0.size = 64) (hb : i0.bytes = 64)
    (n : Nat) (hl : a.eval l = .int .i64 (n : Int)) (hc : a.eval c = .int .i64 (n : Int)) (hn : n ≤ 65536)
    (h : ∀ w', w'.ownsRow w.heap.size E 64 (.slice (some ⟨w.heap.size, 0, none⟩) n n) n (secs (List.replicate n (zeros 64))) → w.grownBy w' none → wpList Try.prog ops Q rest (a.put o.dst (.slice (some ⟨w.heap.size, 0, none⟩) n n)) w') :
    wpList Try.prog ops Q (o :: rest) a w := by
  refine wpList_make_full _ hg l c T hop w.heap.size E i0 zsec 64 hT hi hz hs _ _ _ _ n hl hc rfl rfl (by rw [hb]; omega) (by simp [maxLen]; omega) (Nat.le_refl _) ?_
  intro w' h1 h2
  rw [made_secs] at h1
  exact h w' h1 h2

theorem new_no (n : Int) (w : World) (h : n < 1 ∨ 65536 < n) : Calls Try.prog 7 #[.int .i64 n] w fun e w' => e = .returned (.tuple #[.pointer none, .int .i64 1]) ∧ w = w' := by
  rcases h with h | h
  · go_enter Try.func7, Try.ntmps7
    go_wp2_with fail
    exact bodyPost_ret (v := .tuple #[.pointer none, .int .i64 1]) (by simp [results, Try.results7, go_sem]) rfl ⟨rfl, rfl⟩
  · have h' : ¬ n < 1 := by omega
    go_enter Try.func7, Try.ntmps7
    go_wp2_with fail
    exact bodyPost_ret (v := .tuple #[.pointer none, .int .i64 1]) (by simp [results, Try.results7, go_sem]) rfl ⟨rfl, rfl⟩

/-- what New leaves -/
def NewEnd (n : Nat) (w : World) (e : Ending) (w' : World) : Prop :=
  ∃ p kv, e = .returned (.tuple #[.pointer (some ⟨p, 0, none⟩), .int .i64 0]) ∧ Dk w' (fun k => w.heap.size ≤ k ∧ k < w'.heap.size) p kv (.slice none 0 0) (.map none) (List.replicate n (zeros 64)) [] 0 false ∧ Below w.heap.size w w'

theorem new_yes (n : Nat) (w : World) (h1 : 1 ≤ n) (h2 : n ≤ 65536) : Calls Try.prog 7 #[.int .i64 (n : Int)] w fun e w' => NewEnd n w e w' := by
  obtain ⟨i0, hi, hz0, hz1, hz2⟩ := info_parts Try.info143
  have hn1 : ¬ (n : Int) < 1 := by omega
  have hn2 : ¬ (65536 : Int) < (n : Int) := by omega
  go_enter Try.func7, Try.ntmps7
  go_wp2_with (at_make; go_loud (refine make_secs rfl _ _ 58 143 rfl i0 Try.underlying58 hi hz0 hz1 hz2 n rfl rfl h2 ?_))
  intro w1 hown0 hgr
  have HO := Lib.hid hown0
  have HG := Lib.hid hgr
  clear hown0 hgr
  go_wp2_with fail
  refine bodyPost_ret (v := .tuple #[.pointer (some ⟨w1.heap.size, 0, none⟩), .int .i64 0]) (by simp [results, Try.results7, go_sem]) rfl ?_
  have hs := HG.out.size
  have hl := (World.ownsRow.lt HO.out _ rfl).2
  refine ⟨_, _, rfl, ⟨heap_alloc_new w1 _, ?_, World.ownsRow_nil _ _ _ _, .inl ⟨rfl, rfl⟩, ?_, ⟨by omega, by simp⟩, ?_, by simp [Value.ownBlock], by simp⟩, ?_⟩
  · have := (World.ownsRow.mono (base' := 0) HO.out (Nat.zero_le _)).alloc (Obj.cells #[Value.slice (some { block := w.heap.size, off := 0 }) n n, Value.slice none 0 0, Value.map none, Value.int IntKind.i64 0, Value.bool false] 62)
    rw [List.length_replicate]
    exact this
  · exact ⟨fun s hs => by rw [List.eq_of_mem_replicate hs]; simp [zeros], fun s hs m hm => by rw [List.eq_of_mem_replicate hs] at hm; rw [List.eq_of_mem_replicate hm]; decide, by simp, by simp, by simp, by simpa using h2, by simp⟩
  · intro k hk
    simp [Value.ownBlock] at hk
    simp only [World.size_alloc]
    omega
  · exact ((Below.refl _ _).grown HG.out (Nat.le_refl _) (by simp)).alloc hs _
end Go.Proofs.Ytmnbkhgogogeiaa
