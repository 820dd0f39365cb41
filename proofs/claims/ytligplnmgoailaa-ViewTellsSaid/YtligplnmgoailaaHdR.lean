/-
  Rows of texts and rows of bytes, opened within what is opened already.
-/
import Derived.Test.YtligplnmgoailaaHdC
import Derived.Test.YtligplnmgoailaaHdP
import Derived.JoinedCond
import Derived.SizedLaws
namespace Go.Proofs.Ytligplnmgoailaa
set_option linter.unusedVariables false
open Go.RowKit Go.ChangeShapes Go.WideShapes Go.Deep

theorem open_strs {H : Type} {enc : TypeId × Value → H} {w : World} {fuel : Nat} {v : Value} {x : DataW H × List MemPlace}
    (h : DataW.trod enc Try.prog w 0 (fun _ => true) true fuel 46 [v] = some x) (hw : ∀ n ∈ x.1.weights Try.prog 46, n ≤ reachBytes) : ∃ F : List ByteArray, RowS w v F := by
  have b9 : Try.prog.bytesOf 9 = 16 := by kernel_rfl
  rcases open_strings (e := 9) (by kernel_rfl) (by kernel_rfl) (by kernel_rfl) h with ⟨hcs, _⟩ | ⟨ad, len, cap, ss, hcs, _, hl, hm, hz, hx, hcell, hwz⟩
  · simp only [List.cons.injEq, and_true] at hcs
    subst hcs
    exact ⟨[], RowV.none_ w 1, by simp⟩
  · simp only [List.cons.injEq, and_true] at hcs
    subst hcs
    have hz' : ss.length = cap := by simpa using hz
    have hlen : (ss.take len).length = len := by simp; omega
    have hb : len ≤ 8796093022208 := by
      have h9 := hw (((strs (ss.take len) : List (DataW H)).length + (strs (ss.drop len) : List (DataW H)).length) * Try.prog.bytesOf 9) (by rw [hx, DataW.weights, Try.underlying46]; exact List.mem_cons_self ..)
      rw [b9] at h9
      simp only [strs, List.length_map, List.length_take, List.length_drop, reachBytes] at h9
      omega
    refine ⟨ss.take len, ⟨some ad, cap, by rw [hlen], by omega, hm, by simp [strV], by simp, ?_⟩, by rw [hlen]; exact hb⟩
    intro y hy j hj
    obtain rfl := Option.some.inj hy
    have hj' : j < len := by
      have h0 : j < min len ss.length := by simpa [strV] using hj
      omega
    rw [hcell j (by omega)]
    have e : ss.getD j ByteArray.empty = (ss.take len)[j]'(by omega) := by rw [List.getElem_take, List.getD_eq_getElem?_getD, List.getElem?_eq_getElem (by omega)]; rfl
    rw [e]
    simp [strV]

theorem open_byts {H : Type} {enc : TypeId × Value → H} {w : World} {fuel : Nat} {v : Value} {x : DataW H × List MemPlace}
    (h : DataW.trod enc Try.prog w 0 (fun _ => true) true fuel 47 [v] = some x) (hw : ∀ n ∈ x.1.weights Try.prog 47, n ≤ reachBytes) : ∃ B : List Nat, RowY w v B := by
  have b5 : Try.prog.bytesOf 5 = 1 := by kernel_rfl
  rcases open_ints (e := 5) (k := .u8) (by kernel_rfl) (by kernel_rfl) (by kernel_rfl) h with ⟨hcs, _⟩ | ⟨ad, len, cap, zs, hcs, _, hl, hm, hz, hx, hcell, hwz⟩
  · simp only [List.cons.injEq, and_true] at hcs
    subst hcs
    exact ⟨[], RowV.none_ w 1, by simp, by simp⟩
  · simp only [List.cons.injEq, and_true] at hcs
    subst hcs
    have hz' : zs.length = cap := by simpa using hz
    have hlen : (zs.take len).length = len := by simp; omega
    have hbd : len ≤ 140737488355328 := by
      have h9 := hw (((lits .u8 (zs.take len) : List (DataW H)).length + (lits .u8 (zs.drop len) : List (DataW H)).length) * Try.prog.bytesOf 5) (by rw [hx, DataW.weights, Try.underlying47]; exact List.mem_cons_self ..)
      rw [b5] at h9
      simp only [lits, List.length_map, List.length_take, List.length_drop, reachBytes] at h9
      omega
    have hb : ∀ z ∈ zs, 0 ≤ z ∧ z < 256 := fun z hzm => by have := Go.bounds_u8 (hwz z hzm); omega
    refine ⟨(zs.take len).map Int.toNat, ⟨some ad, cap, by rw [List.length_map, hlen], by rw [List.length_map]; omega, hm, by simp [bytV], by simp, ?_⟩, by rw [List.length_map, hlen]; exact hbd, ?_⟩
    · intro y hy j hj
      obtain rfl := Option.some.inj hy
      have hj' : j < len := by
        have h0 : j < min len zs.length := by simpa [bytV] using hj
        omega
      rw [hcell j (by omega)]
      have e : zs.getD j 0 = (zs.take len)[j]'(by omega) := by rw [List.getElem_take, List.getD_eq_getElem?_getD, List.getElem?_eq_getElem (by omega)]; rfl
      have hz0 := hb ((zs.take len)[j]'(by omega)) (List.mem_of_mem_take (List.getElem_mem (by omega)))
      rw [e]
      simp only [bytV, List.getElem_map]
      congr 2
      omega
    · intro n hn
      obtain ⟨z, hz1, rfl⟩ := List.mem_map.1 hn
      have := hb z (List.mem_of_mem_take hz1)
      omega
end Go.Proofs.Ytligplnmgoailaa
