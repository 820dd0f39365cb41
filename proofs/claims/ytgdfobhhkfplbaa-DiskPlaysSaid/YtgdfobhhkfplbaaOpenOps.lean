/-
  An argument that is a slice of the script's calls, opened.
-/
import Derived.Test.YtgdfobhhkfplbaaOwnI
import Derived.Deep.SlicePairs
import Derived.SizedLaws
namespace Go.Proofs.Ytgdfobhhkfplbaa
set_option linter.unusedVariables false
open Go.RowKit Go.ChangeShapes Go.WideShapes Go.Deep

/-- one call of the script -/
structure OpD where
  kind : Int
  at_ : Int
  bv : Value
  b : List Nat
  kv : Value
  k : List Int

/-- what is known of one -/
structure OpOk (w : World) (x : Addr) (i : Nat) (o : OpD) : Prop where
  c0 : w.cell? (x.add (i * 4)) = some (.int .i64 o.kind)
  c1 : w.cell? (x.add (i * 4 + 1)) = some (.int .i64 o.at_)
  c2 : w.cell? (x.add (i * 4 + 2)) = some o.bv
  c3 : w.cell? (x.add (i * 4 + 3)) = some o.kv
  rb : RowB w o.bv o.b
  rk : RowI w o.kv o.k
  len : o.k.length ≤ 17592186043904
  wat : (Lit.int .i64 o.at_).wf = true

def RowO (w : World) (v : Value) (L : List OpD) : Prop :=
  ∃ a cap, v = .slice a L.length cap ∧ L.length ≤ cap ∧ cap ≤ maxLen ∧ (a = none → L.length = 0) ∧ ∀ x, a = some x → ∀ i (hi : i < L.length), OpOk w x i L[i]

theorem weightsAll_mem {H : Type} {P : Program} {e : TypeId} {d : DataW H} : ∀ {l : List (DataW H)}, d ∈ l → ∀ n ∈ d.weights P e, n ∈ DataW.weightsAll P e l := by
  intro l
  induction l with
  | nil => intro h; cases h
  | cons c r ih =>
    intro h n hn
    rw [DataW.weightsAll]
    rcases List.mem_cons.1 h with rfl | h
    · exact List.mem_append_left _ hn
    · exact List.mem_append_right _ (ih h n hn)

theorem list_of {α : Type} (P : Nat → α → Prop) (n : Nat) (h : ∀ i, i < n → ∃ x, P i x) : ∃ l : List α, l.length = n ∧ ∀ i (hi : i < l.length), P i l[i] := by
  induction n with
  | zero => exact ⟨[], rfl, fun i hi => by simp at hi⟩
  | succ n ih =>
    obtain ⟨l, hl, hp⟩ := ih fun i hi => h i (by omega)
    obtain ⟨x, hx⟩ := h n (by omega)
    refine ⟨l ++ [x], by simp [hl], fun i hi => ?_⟩
    by_cases e : i < l.length
    · rw [List.getElem_append_left e]; exact hp i e
    · have e2 : i = l.length := by simp at hi; omega
      subst e2
      simp only [List.getElem_concat_length]
      rw [hl]; exact hx

theorem rowI_of_ints {w : World} {a : Addr} {len cap : Nat} {zs : List Int} (hl : len ≤ cap) (hm : cap ≤ maxLen) (hz : zs.length = cap)
    (hcell : ∀ i, i < zs.length → w.cell? (a.add i) = some (.int .i64 (zs.getD i 0))) : RowI w (.slice (some a) len cap) (zs.take len) := by
  have hlen : (zs.take len).length = len := by simp; omega
  refine ⟨some a, len, cap, rfl, hlen, hl, hm, fun _ _ => rfl, by simp, ?_⟩
  intro x hx i hi
  obtain rfl := Option.some.inj hx
  rw [hlen] at hi
  rw [hcell i (by omega)]
  simp [List.getD, show i < zs.length by omega]

theorem Try.ops33 : ∃ f0 f1 f2 f3 : Field, Try.prog.underlying 33 = some (.struct #[f0, f1, f2, f3]) ∧ f0.type = 3 ∧ f1.type = 3 ∧ f2.type = 30 ∧ f3.type = 31 ∧ f0.offset = 0 ∧ f1.offset = 1 ∧ f2.offset = 2 ∧ f3.offset = 3 :=
  ⟨_, _, _, _, Try.underlying33, rfl, rfl, rfl, rfl, rfl, rfl, rfl, rfl⟩

theorem open_ops {H : Type} {enc : TypeId × Value → H} {w : World} {a : Option Addr} {len cap : Nat} {d : DataW H} {p : List MemPlace}
    (h : DataW.Trod enc Try.prog w 0 (fun _ => true) true 22 (.slice a len cap) d p) (hwt : ∀ n ∈ d.weights Try.prog 22, n ≤ reachBytes) : ∃ L : List OpD, RowO w (.slice a len cap) L := by
  obtain ⟨fuel, hf⟩ := h
  obtain ⟨f0, f1, f2, f3, hs33, t0, t1, t2, t3, o0, o1, o2, o3⟩ := Try.ops33
  have ce : Try.prog.cellsOf 33 = 4 := by kernel_rfl
  have ce3 : Try.prog.cellsOf 3 = 1 := by kernel_rfl
  have ce30 : Try.prog.cellsOf 30 = 1 := by kernel_rfl
  have ce31 : Try.prog.cellsOf 31 = 1 := by kernel_rfl
  have b3 : Try.prog.bytesOf 3 = 8 := by kernel_rfl
  rcases open_slice Try.underlying22 hf with ⟨hcs, _⟩ | ⟨x, l, c, m, n, D, Pl, hcs, _, hl, hm, hmm, hx, hcell⟩
  · simp [Value.cells] at hcs
    obtain ⟨rfl, rfl, rfl⟩ := hcs
    exact ⟨[], none, 0, rfl, Nat.le_refl _, by decide, by simp, by simp⟩
  · simp [Value.cells] at hcs
    obtain ⟨rfl, rfl, rfl⟩ := hcs
    obtain ⟨rfl, -⟩ := Prod.mk.inj hx
    obtain ⟨L, hL, hp⟩ := list_of (fun i (q : OpD) => OpOk w x i q) len (fun i hi => by
      obtain ⟨cs', h1, h2⟩ := hcell i (by simp at hmm; omega)
      rw [ce] at h1
      obtain ⟨_, hlen, hc4⟩ := World.cells?_some h1
      obtain ⟨xs, k, hk, hxy, _, hxl, hfl⟩ := DataW.trod_struct hs33 h2
      have hD : D i = .agg (xs.map (·.1)) := (Prod.mk.inj hxy).1
      have hmem : ∀ n ∈ (D i).weights Try.prog 33, n ≤ reachBytes := fun n hn => by
        refine hwt n ?_
        rw [DataW.weights, Try.underlying22]
        refine List.mem_cons_of_mem _ (List.mem_append_left _ (weightsAll_mem ?_ n hn))
        exact List.mem_map.2 ⟨i, List.mem_range.2 hi, rfl⟩
      obtain ⟨y0, y1, y2, y3, rfl⟩ : ∃ y0 y1 y2 y3, xs = [y0, y1, y2, y3] := by
        match xs, hxl with
        | [y0, y1, y2, y3], _ => exact ⟨_, _, _, _, rfl⟩
      obtain ⟨v0, v1, v2, v3, rfl⟩ : ∃ v0 v1 v2 v3, cs' = [v0, v1, v2, v3] := by
        match cs', hlen with
        | [v0, v1, v2, v3], _ => exact ⟨_, _, _, _, rfl⟩
      have g0 := hfl 0 f0 rfl
      have g1 := hfl 1 f1 rfl
      have g2 := hfl 2 f2 rfl
      have g3 := hfl 3 f3 rfl
      simp [t0, t1, t2, t3, o0, o1, o2, o3, ce3, ce30, ce31] at g0 g1 g2 g3
      have e0 := hc4 0 (by omega)
      have e1 := hc4 1 (by omega)
      have e2 := hc4 2 (by omega)
      have e3 := hc4 3 (by omega)
      rw [add_add] at e0 e1 e2 e3
      obtain ⟨n0, q0, _, w0⟩ := DataW.trod_int Try.underlying3 g0
      obtain ⟨n1, q1, _, w1⟩ := DataW.trod_int Try.underlying3 g1
      simp only [List.cons.injEq, and_true] at q0 q1
      subst q0 q1
      obtain ⟨lb, hb⟩ : ∃ lb, RowB w v2 lb := by
        rcases open_ints Try.underlying30 Try.underlying5 (by kernel_rfl) g2 with ⟨hcs, _⟩ | ⟨xa, l', c', zs, hcs, _, hl', hm', hz, hx', hce, hwz⟩
        · simp at hcs
          subst hcs
          exact ⟨[], rowB_nil w⟩
        · simp at hcs
          subst hcs
          exact ⟨_, rowB_of_ints hl' hm' (by simpa using hz) hce hwz⟩
      obtain ⟨lk, hk, hkl⟩ : ∃ lk, RowI w v3 lk ∧ lk.length ≤ 17592186043904 := by
        rcases open_ints Try.underlying31 Try.underlying3 (by kernel_rfl) g3 with ⟨hcs, _⟩ | ⟨xa, l', c', zs, hcs, _, hl', hm', hz, hx', hce, hwz⟩
        · simp at hcs
          subst hcs
          exact ⟨[], rowI_nil w, by simp⟩
        · simp at hcs
          subst hcs
          refine ⟨_, rowI_of_ints hl' hm' (by simpa using hz) hce, ?_⟩
          have hw3 : ∀ n ∈ y3.1.weights Try.prog 31, n ≤ reachBytes := fun n hn => by
            refine hmem n ?_
            rw [hD, DataW.weights, hs33]
            exact DataW.weights_mem_each (j := 3) (t := 31) (d := y3.1) (by simp [t3]) (by simp) n hn
          rw [hx'] at hw3
          have := hw3 (((lits .i64 (zs.take l')).length + (lits .i64 (zs.drop l')).length) * Try.prog.bytesOf 3) (by rw [DataW.weights, Try.underlying31]; exact List.mem_cons_self)
          rw [b3] at this
          simp only [lits, List.length_map, List.length_take, List.length_drop, reachBytes] at this ⊢
          omega
      exact ⟨⟨n0, n1, v2, lb, v3, lk⟩, by simpa using e0, by simpa using e1, by simpa using e2, by simpa using e3, hb, hk, hkl, w1⟩)
    refine ⟨L, some x, cap, by rw [hL], by omega, hm, by simp, fun y hy i hi => ?_⟩
    obtain rfl := Option.some.inj hy
    exact hp i hi
end Go.Proofs.Ytgdfobhhkfplbaa
