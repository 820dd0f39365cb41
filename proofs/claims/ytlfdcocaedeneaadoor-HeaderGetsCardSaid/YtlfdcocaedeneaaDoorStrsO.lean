/-
  A slice of texts among the arguments, opened.
-/
import Derived.Test.YtlfdcocaedeneaaDoorMadeW
import Derived.JoinedCond
import Derived.Deep.CondSized
import Derived.SizedLaws
import Derived.SliceStrings
namespace Go.Proofs.YtlfdcocaedeneaaDoor
open Go.ChangeShapes Go.WideShapes Go.ChangeAt Go.RowKit
set_option linter.unusedVariables false

theorem weightsAll_mem {H : Type} {P : Program} {e : TypeId} {d : DataW H} : ∀ {l : List (DataW H)}, d ∈ l → ∀ n ∈ d.weights P e, n ∈ DataW.weightsAll P e l := by
  intro l
  induction l with
  | nil => intro h; cases h
  | cons c r ih =>
    intro h n hn
    rw [DataW.weightsAll]
    rcases List.mem_cons.1 h with rfl | h
    · exact List.mem_append_left _ hn
    · exact List.mem_append_right _ (ih h n hn)

/-- a slice of texts, opened -/
theorem open_row_strs {H : Type} {enc : TypeId × Value → H} {w : World} {a : Option Addr} {len cap : Nat} {d : DataW H} {p : List MemPlace}
    (h : DataW.Trod enc Tryd.prog w 0 (fun _ => true) true 33 (.slice a len cap) d p) (hwt : ∀ n ∈ d.weights Tryd.prog 33, n ≤ reachBytes) : ∃ S : List ByteArray, StrsIn w (.slice a len cap) S := by
  obtain ⟨fuel, hf⟩ := h
  rcases open_strings Tryd.underlying33 Tryd.underlying9 (by kernel_rfl) hf with ⟨hcs, _⟩ | ⟨x, l, c, ss, hcs, _, hl, hm, hz, hx, hcell, hsz⟩
  · simp [Value.cells] at hcs
    obtain ⟨rfl, rfl, rfl⟩ := hcs
    exact ⟨[], by simp, by simp, .inl ⟨rfl, _, _, rfl⟩⟩
  · simp [Value.cells] at hcs
    obtain ⟨rfl, rfl, rfl⟩ := hcs
    have hz' : ss.length = cap := by simpa using hz
    have htl : (ss.take len).length = len := by simp; omega
    obtain ⟨rfl, rfl⟩ := Prod.mk.inj hx
    refine ⟨ss.take len, ?_, by omega, ?_⟩
    · intro s hs
      have h9 := hwt s.data.toList.length (by
        rw [DataW.weights, Tryd.underlying33]
        refine List.mem_cons_of_mem _ (List.mem_append_left _ (weightsAll_mem (d := .lit (.string s.data.toList)) ?_ _ (by rw [DataW.weights]; exact List.mem_singleton.2 rfl)))
        exact List.mem_map.2 ⟨s, hs, rfl⟩)
      have e9 : s.data.toList.length = s.size := by rw [Array.length_toList]; rfl
      simp only [reachBytes] at h9
      omega
    · by_cases h0 : len = 0
      · subst h0
        exact .inl ⟨by simp, _, _, rfl⟩
      · right
        obtain ⟨b, off, spot⟩ := x
        have hc0 := hcell 0 (by omega)
        have hspot : spot = none := by simpa [Addr.add] using World.cell?_spot hc0
        subst hspot
        refine ⟨b, off, cap, by rw [htl], ?_, by omega, fun i hi => ?_⟩
        · have := World.block_lt_of_cell? w _ hc0
          simpa [Addr.add] using this
        · have hi' : i < len := by omega
          have := hcell i (by omega)
          rw [Addr.add_lit] at this
          rw [this]
          have : ss.getD i ByteArray.empty = ss[i]'(by omega) := by simp [List.getD, show i < ss.length by omega]
          rw [this]
          simp

end Go.Proofs.YtlfdcocaedeneaaDoor
