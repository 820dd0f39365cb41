/-
  A folder by value, opened.
-/
import Derived.Test.YtligplnmgoailaaHdS
import Derived.JoinedCond
import Derived.Deep.CondSized
import Derived.SizedLaws
namespace Go.Proofs.Ytligplnmgoailaa
set_option linter.unusedVariables false
open Go.RowKit Go.ChangeShapes Go.WideShapes Go.Deep

theorem open_folder {H : Type} {enc : TypeId × Value → H} {w : World} {r : Reach} {b0 : Nat} {v : Value} {d : DataW H} {p : List MemPlace}
    (hv : Value.okWide Try.prog w r b0 25 v) (h : DataW.Trod enc Try.prog w 0 (fun _ => true) true 25 v d p) (hw : ∀ n ∈ d.weights Try.prog 25, n ≤ reachBytes) :
    ∃ (nm : ByteArray) (va nx up : Int) (gone : Bool) (lv : Value) (L : List HeldD), v = .agg (foldA nm va nx up gone lv) ∧ RowV w 9 lv L.length (heldsC L) ∧ ∀ h ∈ L, HeldWk w h := by
  obtain ⟨cs, rfl, hsz⟩ := okWide_struct Try.underlying25 hv
  obtain ⟨l⟩ := cs
  have hC : Try.prog.cellsOf 25 = 6 := by kernel_rfl
  match l, hsz.trans hC with
  | [c0, c1, c2, c3, c4, c5], _ =>
    obtain ⟨fuel, hf⟩ := h
    obtain ⟨xs, n, _, hx, _, hlen, hg⟩ := DataW.trod_struct Try.underlying25 hf
    have h9 : Try.prog.cellsOf 9 = 1 := by kernel_rfl
    have h22 : Try.prog.cellsOf 22 = 1 := by kernel_rfl
    have h4 : Try.prog.cellsOf 4 = 1 := by kernel_rfl
    have h23 : Try.prog.cellsOf 23 = 1 := by kernel_rfl
    match xs, hlen with
    | [y0, y1, y2, y3, y4, y5], _ =>
      have g0 : DataW.trod enc Try.prog w 0 (fun _ => true) true n 9 [c0] = some y0 := by simpa [Value.cells, h9] using hg 0 _ rfl
      have g1 : DataW.trod enc Try.prog w 0 (fun _ => true) true n 22 [c1] = some y1 := by simpa [Value.cells, h22] using hg 1 _ rfl
      have g2 : DataW.trod enc Try.prog w 0 (fun _ => true) true n 22 [c2] = some y2 := by simpa [Value.cells, h22] using hg 2 _ rfl
      have g3 : DataW.trod enc Try.prog w 0 (fun _ => true) true n 22 [c3] = some y3 := by simpa [Value.cells, h22] using hg 3 _ rfl
      have g4 : DataW.trod enc Try.prog w 0 (fun _ => true) true n 4 [c4] = some y4 := by simpa [Value.cells, h4] using hg 4 _ rfl
      have g5 : DataW.trod enc Try.prog w 0 (fun _ => true) true n 23 [c5] = some y5 := by simpa [Value.cells, h23] using hg 5 _ rfl
      obtain ⟨s, e0, _, _⟩ := DataW.trod_string Try.underlying9 g0
      obtain ⟨n1, e1, _, _⟩ := DataW.trod_int Try.underlying22 g1
      obtain ⟨n2, e2, _, _⟩ := DataW.trod_int Try.underlying22 g2
      obtain ⟨n3, e3, _, _⟩ := DataW.trod_int Try.underlying22 g3
      obtain ⟨b4, e4, _⟩ := DataW.trod_bool Try.underlying4 g4
      simp only [List.cons.injEq, and_true] at e0 e1 e2 e3 e4
      subst e0 e1 e2 e3 e4
      have hwe : ∀ n ∈ DataW.weightsEach Try.prog [9, 22, 22, 22, 4, 23] [y0.1, y1.1, y2.1, y3.1, y4.1, y5.1], n ≤ reachBytes := fun n hn => hw n (by
        have hD : d = DataW.agg [y0.1, y1.1, y2.1, y3.1, y4.1, y5.1] := (Prod.mk.inj hx).1
        rw [hD, DataW.weights, Try.underlying25]
        exact hn)
      have hw5 : ∀ n ∈ y5.1.weights Try.prog 23, n ≤ reachBytes := fun n hn => hwe n (DataW.weights_mem_each (j := 5) rfl rfl n hn)
      obtain ⟨L, hL, hw⟩ := open_helds g5 hw5
      exact ⟨s, n1, n2, n3, b4, c5, L, rfl, hL, hw⟩
end Go.Proofs.Ytligplnmgoailaa
