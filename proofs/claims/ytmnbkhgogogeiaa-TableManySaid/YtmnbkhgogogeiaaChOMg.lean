/-
  An argument that is a slice of changes, opened, with how long its keys and values may be.
-/
import Derived.Test.YtmnbkhgogogeiaaCopMg
import Derived.Deep.SlicePairs
import Derived.JoinedCond
import Derived.SizedLaws
namespace Go.Proofs.Ytmnbkhgogogeiaa
set_option linter.unusedVariables false
open Go.RowKit Go.ChangeShapes Go.WideShapes Go.Deep

theorem list_of {α : Type} (P : Nat → α → Prop) (n : Nat) (h : ∀ i, i < n → ∃ x, P i x) : ∃ l : List α, l.length = n ∧ ∀ i (hi : i < l.length), P i l[i] := by
  induction n with
  | zero => exact ⟨[], rfl, fun i hi => by simp at hi⟩
  | succ n ih =>
    obtain ⟨l, hl, hp⟩ := ih fun i hi => h i (by omega)
    obtain ⟨x, hx⟩ := h n (by omega)
    refine ⟨l ++ [x], by simp [hl], fun i hi => ?_⟩
    by_cases e : i < l.length
    · rw [List.getElem_append_left e]; exact hp i e
    · have e2 : i = l.length := by simp at hi; omega
      subst e2
      simp only [List.getElem_concat_length]
      rw [hl]; exact hx
theorem weightsAll_mem {H : Type} {P : Program} {e : TypeId} {d : DataW H} : ∀ {l : List (DataW H)}, d ∈ l → ∀ n ∈ d.weights P e, n ∈ DataW.weightsAll P e l := by
  intro l
  induction l with
  | nil => intro h; cases h
  | cons c r ih =>
    intro h n hn
    rw [DataW.weightsAll]
    rcases List.mem_cons.1 h with rfl | h
    · exact List.mem_append_left _ hn
    · exact List.mem_append_right _ (ih h n hn)

theorem open_bytw {H : Type} {enc : TypeId × Value → H} {w : World} {fuel : Nat} {v : Value} {x : DataW H × List MemPlace}
    (h : DataW.trod enc Try.prog w 0 (fun _ => true) true fuel 23 [v] = some x) (hw : ∀ n ∈ x.1.weights Try.prog 23, n ≤ reachBytes) : ∃ l : List Nat, RowB w v l ∧ l.length ≤ 281474976710656 := by
  have b5 : Try.prog.bytesOf 5 = 1 := by kernel_rfl
  rcases open_ints (e := 5) (k := .u8) (by kernel_rfl) (by kernel_rfl) (by kernel_rfl) h with ⟨hcs, _⟩ | ⟨ad, len, cap, zs, hcs, _, hl, hm, hz, hx, hcell, hwz⟩
  · simp only [List.cons.injEq, and_true] at hcs
    subst hcs
    exact ⟨[], rowB_nil w, by simp⟩
  · simp only [List.cons.injEq, and_true] at hcs
    subst hcs
    have hz' : zs.length = cap := by simpa using hz
    refine ⟨_, rowB_of_ints hl hm hz' hcell hwz, ?_⟩
    have h9 := hw (((lits .u8 (zs.take len) : List (DataW H)).length + (lits .u8 (zs.drop len) : List (DataW H)).length) * Try.prog.bytesOf 5) (by rw [hx, DataW.weights, Try.underlying23]; exact List.mem_cons_self ..)
    rw [b5] at h9
    simp only [lits, List.length_map, List.length_take, List.length_drop, reachBytes] at h9
    simp only [List.length_map, List.length_take]
    omega

theorem Try.chg35 : ∃ f0 f1 f2 : Field, Try.prog.underlying 35 = some (.struct #[f0, f1, f2]) ∧ f0.type = 23 ∧ f1.type = 23 ∧ f2.type = 4 ∧ f0.offset = 0 ∧ f1.offset = 1 ∧ f2.offset = 2 :=
  ⟨_, _, _, Try.underlying35, rfl, rfl, rfl, rfl, rfl, rfl⟩

set_option maxRecDepth 100000 in
set_option maxHeartbeats 4000000 in
theorem open_chgs {H : Type} {enc : TypeId × Value → H} {w : World} {v : Value} {d : DataW H} {p : List MemPlace}
    (h0 : DataW.Trod enc Try.prog w 0 (fun _ => true) true 22 v d p) (hcl : v.cells.toList = [v]) (hw : ∀ n ∈ d.weights Try.prog 22, n ≤ reachBytes) : ∃ C : List Chg, ChgV w v C ∧ ∀ c ∈ C, c.key.length ≤ 281474976710656 ∧ c.val.length ≤ 281474976710656 := by
  obtain ⟨fuel, h⟩ := h0
  rw [hcl] at h
  obtain ⟨f0, f1, f2, hs35, t0, t1, t2, o0, o1, o2⟩ := Try.chg35
  have ce : Try.prog.cellsOf 35 = 3 := by kernel_rfl
  have h23 : Try.prog.cellsOf 23 = 1 := by kernel_rfl
  have h4 : Try.prog.cellsOf 4 = 1 := by kernel_rfl
  rcases open_slice Try.underlying22 h with ⟨hcs, _⟩ | ⟨ad, len, cap, m, n, D, Pl, hcs, _, hl, hm, hmm, hx, hcell⟩
  · simp only [List.cons.injEq, and_true] at hcs
    subst hcs
    exact ⟨[], ⟨none, 0, rfl, Nat.le_refl _, by decide, .inl rfl⟩, by simp⟩
  · simp only [List.cons.injEq, and_true] at hcs
    subst hcs
    obtain ⟨rfl, -⟩ := Prod.mk.inj hx
    obtain ⟨L, hL, hp⟩ := list_of (fun i (q : Chg) => ∃ ka kl kc va vl vc, w.cell? (ad.add (i * 3)) = some (.slice ka kl kc) ∧ w.cell? (ad.add (i * 3 + 1)) = some (.slice va vl vc) ∧ w.cell? (ad.add (i * 3 + 2)) = some (.bool q.drop) ∧ RowB w (.slice ka kl kc) q.key ∧ RowB w (.slice va vl vc) q.val ∧ q.key.length ≤ 281474976710656 ∧ q.val.length ≤ 281474976710656) len (fun i hi => by
      obtain ⟨cs', h1, h2⟩ := hcell i (by simp at hmm; omega)
      have hwi : ∀ n ∈ (D i).weights Try.prog 35, n ≤ reachBytes := fun n hn => hw n (by
        rw [DataW.weights, Try.underlying22]
        exact List.mem_cons_of_mem _ (List.mem_append_left _ (weightsAll_mem (List.mem_map.2 ⟨i, List.mem_range.2 hi, rfl⟩) n hn)))
      rw [ce] at h1
      obtain ⟨_, hlen, hc⟩ := World.cells?_some h1
      obtain ⟨xs, k, hk, hxy, _, hxl, hfl⟩ := DataW.trod_struct hs35 h2
      obtain ⟨c0, c1, c2, rfl⟩ : ∃ c0 c1 c2, cs' = [c0, c1, c2] := by
        match cs', hlen with
        | [_, _, _], _ => exact ⟨_, _, _, rfl⟩
      obtain ⟨y0, y1, y2, rfl⟩ : ∃ y0 y1 y2, xs = [y0, y1, y2] := by
        match xs, hxl with
        | [_, _, _], _ => exact ⟨_, _, _, rfl⟩
      have hwe : ∀ n ∈ DataW.weightsEach Try.prog [23, 23, 4] [y0.1, y1.1, y2.1], n ≤ reachBytes := fun n hn => hwi n (by
        have hD : D i = DataW.agg [y0.1, y1.1, y2.1] := (Prod.mk.inj hxy).1
        rw [hD, DataW.weights, Try.underlying35]
        exact hn)
      have hw0 : ∀ n ∈ y0.1.weights Try.prog 23, n ≤ reachBytes := fun n hn => hwe n (DataW.weights_mem_each (j := 0) rfl rfl n hn)
      have hw1 : ∀ n ∈ y1.1.weights Try.prog 23, n ≤ reachBytes := fun n hn => hwe n (DataW.weights_mem_each (j := 1) rfl rfl n hn)
      have g0 := hfl 0 f0 rfl
      have g1 := hfl 1 f1 rfl
      have g2 := hfl 2 f2 rfl
      simp [t0, t1, t2, o0, o1, o2, h23, h4] at g0 g1 g2
      have e0 := hc 0 (by omega)
      have e1 := hc 1 (by omega)
      have e2 := hc 2 (by omega)
      rw [add_add] at e0 e1 e2
      obtain ⟨l0, r0, b0⟩ := open_bytw g0 hw0
      obtain ⟨l1, r1, b1⟩ := open_bytw g1 hw1
      obtain ⟨b5, q5, _⟩ := DataW.trod_bool Try.underlying4 g2
      simp only [List.cons.injEq, and_true] at q5
      subst q5
      obtain ⟨ka, kl, kc, rfl, -⟩ := id r0
      obtain ⟨va, vl, vc, rfl, -⟩ := id r1
      exact ⟨⟨l0, l1, b5⟩, ka, kl, kc, va, vl, vc, by simpa using e0, by simpa using e1, by simpa using e2, r0, r1, b0, b1⟩)
    refine ⟨L, ⟨some ad, cap, by rw [hL], by omega, hm, ?_⟩, fun c hc => ?_⟩
    · by_cases h0 : L.length = 0
      · exact .inl (List.eq_nil_of_length_eq_zero h0)
      · obtain ⟨ka, kl, kc, va, vl, vc, e0, -⟩ := hp 0 (by omega)
        have hs : ad.spot = none := by
          have := World.cell?_spot e0
          simpa [Addr.add] using this
        obtain ⟨g, off, sp⟩ := ad
        simp only at hs
        subst hs
        refine .inr ⟨g, off, rfl, fun i hi => ?_⟩
        obtain ⟨ka, kl, kc, va, vl, vc, e0, e1, e2, r0, r1, -⟩ := hp i hi
        rw [Addr.add_lit] at e0 e1 e2
        exact ⟨ka, kl, kc, va, vl, vc, e0, by rw [Nat.add_assoc]; exact e1, by rw [Nat.add_assoc]; exact e2, r0, r1⟩
    · obtain ⟨i, hi, rfl⟩ := List.mem_iff_getElem.1 hc
      obtain ⟨_, _, _, _, _, _, -, -, -, -, -, b0, b1⟩ := hp i hi
      exact ⟨b0, b1⟩
end Go.Proofs.Ytmnbkhgogogeiaa
