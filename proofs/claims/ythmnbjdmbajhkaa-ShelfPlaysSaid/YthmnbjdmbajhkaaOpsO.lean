/-
  An argument that is a slice of the script's calls, opened.
-/
import Derived.Test.YthmnbjdmbajhkaaInNil
import Derived.Deep.SlicePairs
import Derived.SizedLaws
namespace Go.Proofs.Ythmnbjdmbajhkaa
set_option linter.unusedVariables false
open Go.RowKit Go.ChangeShapes Go.WideShapes Go.Deep

/-- one call of the script -/
structure OpD where
  kind : Int
  v : Int
  u : Int
  size : Int
  used : Int
  clean : Bool

/-- what is known of one -/
structure OpOk (w : World) (x : Addr) (i : Nat) (o : OpD) : Prop where
  c0 : w.cell? (x.add (i * 6)) = some (.int .i64 o.kind)
  c1 : w.cell? (x.add (i * 6 + 1)) = some (.int .u32 o.v)
  c2 : w.cell? (x.add (i * 6 + 2)) = some (.int .u32 o.u)
  c3 : w.cell? (x.add (i * 6 + 3)) = some (.int .i64 o.size)
  c4 : w.cell? (x.add (i * 6 + 4)) = some (.int .i64 o.used)
  c5 : w.cell? (x.add (i * 6 + 5)) = some (.bool o.clean)
  wfs : (Lit.int .i64 o.size).wf = true
  wfu : (Lit.int .i64 o.used).wf = true

def RowO (w : World) (v : Value) (L : List OpD) : Prop :=
  ∃ a cap, v = .slice a L.length cap ∧ L.length ≤ cap ∧ cap ≤ maxLen ∧ (a = none → L.length = 0) ∧ ∀ x, a = some x → ∀ i (hi : i < L.length), OpOk w x i L[i]

theorem list_of {α : Type} (P : Nat → α → Prop) (n : Nat) (h : ∀ i, i < n → ∃ x, P i x) : ∃ l : List α, l.length = n ∧ ∀ i (hi : i < l.length), P i l[i] := by
  induction n with
  | zero => exact ⟨[], rfl, fun i hi => by simp at hi⟩
  | succ n ih =>
    obtain ⟨l, hl, hp⟩ := ih fun i hi => h i (by omega)
    obtain ⟨x, hx⟩ := h n (by omega)
    refine ⟨l ++ [x], by simp [hl], fun i hi => ?_⟩
    by_cases e : i < l.length
    · rw [List.getElem_append_left e]; exact hp i e
    · have e2 : i = l.length := by simp at hi; omega
      subst e2
      simp only [List.getElem_concat_length]
      rw [hl]; exact hx

theorem Try.ops33 : ∃ f0 f1 f2 f3 f4 : Field, Try.prog.underlying 33 = some (.struct #[f0, f1, f2, f3, f4]) ∧ f0.type = 3 ∧ f1.type = 31 ∧ f2.type = 3 ∧ f3.type = 3 ∧ f4.type = 4 ∧ f0.offset = 0 ∧ f1.offset = 1 ∧ f2.offset = 3 ∧ f3.offset = 4 ∧ f4.offset = 5 :=
  ⟨_, _, _, _, _, Try.underlying33, rfl, rfl, rfl, rfl, rfl, rfl, rfl, rfl, rfl, rfl⟩
theorem Try.ids31 : ∃ f0 f1 : Field, Try.prog.underlying 31 = some (.struct #[f0, f1]) ∧ f0.type = 29 ∧ f1.type = 29 ∧ f0.offset = 0 ∧ f1.offset = 1 :=
  ⟨_, _, Try.underlying31, rfl, rfl, rfl, rfl⟩

theorem open_ops {H : Type} {enc : TypeId × Value → H} {w : World} {a : Option Addr} {len cap : Nat} {d : DataW H} {p : List MemPlace}
    (h : DataW.Trod enc Try.prog w 0 (fun _ => true) true 22 (.slice a len cap) d p) : ∃ L : List OpD, RowO w (.slice a len cap) L := by
  obtain ⟨fuel, hf⟩ := h
  obtain ⟨f0, f1, f2, f3, f4, hs33, t0, t1, t2, t3, t4, o0, o1, o2, o3, o4⟩ := Try.ops33
  obtain ⟨i0, i1, hs31, it0, it1, io0, io1⟩ := Try.ids31
  have ce : Try.prog.cellsOf 33 = 6 := by kernel_rfl
  have ce3 : Try.prog.cellsOf 3 = 1 := by kernel_rfl
  have ce4 : Try.prog.cellsOf 4 = 1 := by kernel_rfl
  have ce31 : Try.prog.cellsOf 31 = 2 := by kernel_rfl
  have ce29 : Try.prog.cellsOf 29 = 1 := by kernel_rfl
  rcases open_slice Try.underlying22 hf with ⟨hcs, _⟩ | ⟨x, l, c, m, n, D, Pl, hcs, _, hl, hm, hmm, hx, hcell⟩
  · simp [Value.cells] at hcs
    obtain ⟨rfl, rfl, rfl⟩ := hcs
    exact ⟨[], none, 0, rfl, Nat.le_refl _, by decide, by simp, by simp⟩
  · simp [Value.cells] at hcs
    obtain ⟨rfl, rfl, rfl⟩ := hcs
    obtain ⟨rfl, -⟩ := Prod.mk.inj hx
    obtain ⟨L, hL, hp⟩ := list_of (fun i (q : OpD) => OpOk w x i q) len (fun i hi => by
      obtain ⟨cs', h1, h2⟩ := hcell i (by simp at hmm; omega)
      rw [ce] at h1
      obtain ⟨_, hlen, hc6⟩ := World.cells?_some h1
      obtain ⟨xs, k, hk, hxy, _, hxl, hfl⟩ := DataW.trod_struct hs33 h2
      obtain ⟨v0, v1, v2, v3, v4, v5, rfl⟩ : ∃ v0 v1 v2 v3 v4 v5, cs' = [v0, v1, v2, v3, v4, v5] := by
        match cs', hlen with
        | [v0, v1, v2, v3, v4, v5], _ => exact ⟨_, _, _, _, _, _, rfl⟩
      obtain ⟨y0, y1, y2, y3, y4, rfl⟩ : ∃ y0 y1 y2 y3 y4, xs = [y0, y1, y2, y3, y4] := by
        match xs, hxl with
        | [y0, y1, y2, y3, y4], _ => exact ⟨_, _, _, _, _, rfl⟩
      have g0 := hfl 0 f0 rfl
      have g1 := hfl 1 f1 rfl
      have g2 := hfl 2 f2 rfl
      have g3 := hfl 3 f3 rfl
      have g4 := hfl 4 f4 rfl
      simp [t0, t1, t2, t3, t4, o0, o1, o2, o3, o4, ce3, ce4, ce31] at g0 g1 g2 g3 g4
      have e0 := hc6 0 (by omega)
      have e1 := hc6 1 (by omega)
      have e2 := hc6 2 (by omega)
      have e3 := hc6 3 (by omega)
      have e4 := hc6 4 (by omega)
      have e5 := hc6 5 (by omega)
      rw [add_add] at e0 e1 e2 e3 e4 e5
      obtain ⟨xs1, k1, hk1, _, _, hxl1, hfl1⟩ := DataW.trod_struct hs31 g1
      obtain ⟨z0, z1, rfl⟩ : ∃ z0 z1, xs1 = [z0, z1] := by
        match xs1, hxl1 with
        | [z0, z1], _ => exact ⟨_, _, rfl⟩
      have g10 := hfl1 0 i0 rfl
      have g11 := hfl1 1 i1 rfl
      simp [it0, it1, io0, io1, ce29] at g10 g11
      obtain ⟨n0, q0, _, w0⟩ := DataW.trod_int Try.underlying3 g0
      obtain ⟨n1, q1, _, w1⟩ := DataW.trod_int Try.underlying29 g10
      obtain ⟨n2, q2, _, w2⟩ := DataW.trod_int Try.underlying29 g11
      obtain ⟨n3, q3, _, w3⟩ := DataW.trod_int Try.underlying3 g2
      obtain ⟨n4, q4, _, w4⟩ := DataW.trod_int Try.underlying3 g3
      obtain ⟨b5, q5, _⟩ := DataW.trod_bool Try.underlying4 g4
      simp only [List.cons.injEq, and_true] at q0 q1 q2 q3 q4 q5
      subst q0 q1 q2 q3 q4 q5
      exact ⟨⟨n0, n1, n2, n3, n4, b5⟩, by simpa using e0, by simpa using e1, by simpa using e2, by simpa using e3, by simpa using e4, by simpa using e5, w3, w4⟩)
    refine ⟨L, some x, cap, by rw [hL], by omega, hm, by simp, fun y hy i hi => ?_⟩
    obtain rfl := Option.some.inj hy
    exact hp i hi
theorem RowO.below {w w' : World} {v : Value} {L : List OpD} {B : Nat} (h : RowO w v L) (hb : Below B w w') (hw : ∀ k, k < w.heap.size → k < B) : RowO w' v L := by
  obtain ⟨a, cap, rfl, h1, h2, h3, h4⟩ := h
  refine ⟨a, cap, rfl, h1, h2, h3, fun x hx i hi => ?_⟩
  have o := h4 x hx i hi
  have key : ∀ {q : Addr} {u : Value}, w.cell? q = some u → w'.cell? q = some u := fun {q u} hq => (hb.cell (hw _ (World.block_lt_of_cell? w _ hq))).trans hq
  exact ⟨key o.c0, key o.c1, key o.c2, key o.c3, key o.c4, key o.c5, o.wfs, o.wfu⟩
end Go.Proofs.Ythmnbjdmbajhkaa
