/-
  The folder's row of messages, opened .
-/
import Derived.Test.YtligplnmgoailaaHdE
import Derived.Test.YtligplnmgoailaaHdR
import Derived.SizedLaws
namespace Go.Proofs.Ytligplnmgoailaa
set_option linter.unusedVariables false
open Go.RowKit Go.ChangeShapes Go.WideShapes Go.Deep

/-- what the opener says of a message -/
structure HeldWk (w : World) (h : HeldD) : Prop where
  ok : HeldOk w h
  uid : 0 ≤ h.uid ∧ h.uid < 4294967296
theorem weightsAll_mem {H : Type} {P : Program} {e : TypeId} {d : DataW H} : ∀ {l : List (DataW H)}, d ∈ l → ∀ n ∈ d.weights P e, n ∈ DataW.weightsAll P e l := by
  intro l
  induction l with
  | nil => intro h; cases h
  | cons c r ih =>
    intro h n hn
    rw [DataW.weightsAll]
    rcases List.mem_cons.1 h with rfl | h
    · exact List.mem_append_left _ hn
    · exact List.mem_append_right _ (ih h n hn)

set_option maxHeartbeats 4000000 in
theorem open_helds {H : Type} {enc : TypeId × Value → H} {w : World} {fuel : Nat} {v : Value} {x : DataW H × List MemPlace}
    (h : DataW.trod enc Try.prog w 0 (fun _ => true) true fuel 23 [v] = some x) (hw : ∀ n ∈ x.1.weights Try.prog 23, n ≤ reachBytes) : ∃ L : List HeldD, RowV w 9 v L.length (heldsC L) ∧ ∀ h ∈ L, HeldWk w h := by
  have ce : Try.prog.cellsOf 49 = 9 := by kernel_rfl
  have h9 : Try.prog.cellsOf 9 = 1 := by kernel_rfl
  have h22 : Try.prog.cellsOf 22 = 1 := by kernel_rfl
  have h4 : Try.prog.cellsOf 4 = 1 := by kernel_rfl
  have h3 : Try.prog.cellsOf 3 = 1 := by kernel_rfl
  have h46 : Try.prog.cellsOf 46 = 1 := by kernel_rfl
  have h47 : Try.prog.cellsOf 47 = 1 := by kernel_rfl
  rcases open_slice Try.underlying23 h with ⟨hcs, _⟩ | ⟨ad, len, cap, m, n, D, Pl, hcs, _, hl, hm, hmm, hx, hcell⟩
  · simp only [List.cons.injEq, and_true] at hcs
    subst hcs
    exact ⟨[], RowV.none_ w 9, by simp⟩
  · simp only [List.cons.injEq, and_true] at hcs
    subst hcs
    obtain ⟨L, hL, hp⟩ := list_of (fun i (q : HeldD) => (∀ j (hj : j < 9), w.cell? (ad.add (i * 9 + j)) = (heldA q)[j]?) ∧ HeldWk w q) len (fun i hi => by
      obtain ⟨cs', h1, h2⟩ := hcell i (by simp at hmm; omega)
      have hwi : ∀ n ∈ (D i).weights Try.prog 49, n ≤ reachBytes := fun n hn => hw n (by
        rw [hx, DataW.weights, Try.underlying23]
        exact List.mem_cons_of_mem _ (List.mem_append_left _ (weightsAll_mem (List.mem_map.2 ⟨i, List.mem_range.2 hi, rfl⟩) n hn)))
      rw [ce] at h1
      obtain ⟨_, hlen, hc⟩ := World.cells?_some h1
      obtain ⟨xs, k, hk, hxy, _, hxl, hg⟩ := DataW.trod_struct Try.underlying49 h2
      obtain ⟨c0, c1, c2, c3, c4, c5, c6, c7, c8, rfl⟩ : ∃ c0 c1 c2 c3 c4 c5 c6 c7 c8, cs' = [c0, c1, c2, c3, c4, c5, c6, c7, c8] := by
        match cs', hlen with
        | [_, _, _, _, _, _, _, _, _], _ => exact ⟨_, _, _, _, _, _, _, _, _, rfl⟩
      obtain ⟨y0, y1, y2, y3, y4, y5, y6, y7, y8, rfl⟩ : ∃ y0 y1 y2 y3 y4 y5 y6 y7 y8, xs = [y0, y1, y2, y3, y4, y5, y6, y7, y8] := by
        match xs, hxl with
        | [_, _, _, _, _, _, _, _, _], _ => exact ⟨_, _, _, _, _, _, _, _, _, rfl⟩
      have hwe : ∀ n ∈ DataW.weightsEach Try.prog [22, 22, 46, 9, 3, 4, 47, 4, 3] [y0.1, y1.1, y2.1, y3.1, y4.1, y5.1, y6.1, y7.1, y8.1], n ≤ reachBytes := fun n hn => hwi n (by
        have hD : D i = DataW.agg [y0.1, y1.1, y2.1, y3.1, y4.1, y5.1, y6.1, y7.1, y8.1] := (Prod.mk.inj hxy).1
        rw [hD, DataW.weights, Try.underlying49]
        exact hn)
      have hw2 : ∀ n ∈ y2.1.weights Try.prog 46, n ≤ reachBytes := fun n hn => hwe n (DataW.weights_mem_each (j := 2) rfl rfl n hn)
      have hw6 : ∀ n ∈ y6.1.weights Try.prog 47, n ≤ reachBytes := fun n hn => hwe n (DataW.weights_mem_each (j := 6) rfl rfl n hn)
      have g0 : DataW.trod enc Try.prog w 0 (fun _ => true) true k 22 [c0] = some y0 := by simpa [Value.cells, h22] using hg 0 _ rfl
      have g1 : DataW.trod enc Try.prog w 0 (fun _ => true) true k 22 [c1] = some y1 := by simpa [Value.cells, h22] using hg 1 _ rfl
      have g2 : DataW.trod enc Try.prog w 0 (fun _ => true) true k 46 [c2] = some y2 := by simpa [Value.cells, h46] using hg 2 _ rfl
      have g3 : DataW.trod enc Try.prog w 0 (fun _ => true) true k 9 [c3] = some y3 := by simpa [Value.cells, h9] using hg 3 _ rfl
      have g4 : DataW.trod enc Try.prog w 0 (fun _ => true) true k 3 [c4] = some y4 := by simpa [Value.cells, h3] using hg 4 _ rfl
      have g5 : DataW.trod enc Try.prog w 0 (fun _ => true) true k 4 [c5] = some y5 := by simpa [Value.cells, h4] using hg 5 _ rfl
      have g6 : DataW.trod enc Try.prog w 0 (fun _ => true) true k 47 [c6] = some y6 := by simpa [Value.cells, h47] using hg 6 _ rfl
      have g7 : DataW.trod enc Try.prog w 0 (fun _ => true) true k 4 [c7] = some y7 := by simpa [Value.cells, h4] using hg 7 _ rfl
      have g8 : DataW.trod enc Try.prog w 0 (fun _ => true) true k 3 [c8] = some y8 := by simpa [Value.cells, h3] using hg 8 _ rfl
      obtain ⟨n0, q0, _, w0⟩ := DataW.trod_int Try.underlying22 g0
      obtain ⟨n1, q1, _, w1⟩ := DataW.trod_int Try.underlying22 g1
      obtain ⟨F, hF⟩ := open_strs g2 hw2
      obtain ⟨s3, q3, _, _⟩ := DataW.trod_string Try.underlying9 g3
      obtain ⟨n4, q4, _, _⟩ := DataW.trod_int Try.underlying3 g4
      obtain ⟨b5, q5, _⟩ := DataW.trod_bool Try.underlying4 g5
      obtain ⟨B, hB⟩ := open_byts g6 hw6
      obtain ⟨b7, q7, _⟩ := DataW.trod_bool Try.underlying4 g7
      obtain ⟨n8, q8, _, _⟩ := DataW.trod_int Try.underlying3 g8
      simp only [List.cons.injEq, and_true] at q0 q1 q3 q4 q5 q7 q8
      subst q0 q1 q3 q4 q5 q7 q8
      have b0 := Go.bounds_u32 w0
      refine ⟨⟨n0, n1, c2, F, s3, n4, b5, c6, B, b7, n8⟩, fun j hj => ?_, ⟨hF, hB⟩, by simp only; omega⟩
      have := hc j (by omega)
      rw [add_add] at this
      rw [this]
      match j, hj with
      | 0, _ => rfl
      | 1, _ => rfl
      | 2, _ => rfl
      | 3, _ => rfl
      | 4, _ => rfl
      | 5, _ => rfl
      | 6, _ => rfl
      | 7, _ => rfl
      | 8, _ => rfl)
    refine ⟨L, ⟨some ad, cap, by rw [hL], by omega, hm, heldsC_len L, by simp, ?_⟩, fun q hq => ?_⟩
    · intro y hy j hj
      obtain rfl := Option.some.inj hy
      have hj' : j < L.length * 9 := by rw [← heldsC_len]; exact hj
      have hi : j / 9 < L.length := by omega
      have hd : j / 9 * 9 + j % 9 = j := by omega
      have h1 := (hp (j / 9) hi).1 (j % 9) (by omega)
      rw [← heldsC_at L (j / 9) (j % 9) hi (by omega), hd] at h1
      rw [h1]
      exact List.getElem?_eq_getElem hj
    · obtain ⟨i, hi, rfl⟩ := List.mem_iff_getElem.1 hq
      exact (hp i hi).2
end Go.Proofs.Ytligplnmgoailaa
