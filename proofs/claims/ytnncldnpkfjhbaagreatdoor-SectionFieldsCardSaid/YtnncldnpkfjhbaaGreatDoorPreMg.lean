/-
  What a line begins with.
-/
import Derived.Test.YtnncldnpkfjhbaaGreatDoorMg15
namespace Go.Proofs.YtnncldnpkfjhbaaGreatDoor
set_option linter.unusedVariables false
open Go.RowKit Go.Lib Go.Shelf

theorem pre_map : ∀ (y x : List Nat), (∀ n ∈ x, n < 256) → (∀ n ∈ y, n < 256) → ((y.map UInt8.ofNat).isPrefixOf (x.map UInt8.ofNat)) = decide (y <+: x)
  | [], x, _, _ => by simp
  | b :: y, [], _, _ => by simp
  | b :: y, a :: x, hx, hy => by
    have ih := pre_map y x (fun n h => hx n (by simp [h])) (fun n h => hy n (by simp [h]))
    have ha := hx a (by simp)
    have hb := hy b (by simp)
    simp only [List.map_cons, List.isPrefixOf_cons_cons, ih, List.cons_prefix_cons]
    by_cases e : b = a
    · subst e; simp
    · have e2 : (UInt8.ofNat b == UInt8.ofNat a) = false := by
        refine beq_false_of_ne fun e3 => e ?_
        have := congrArg UInt8.toNat e3
        simp [Nat.mod_eq_of_lt ha, Nat.mod_eq_of_lt hb] at this
        exact this
      simp [e2, e]
theorem bytesOf_map (l : List Nat) : Lib.bytesOf (l.map fun n : Nat => (n : Int)) = l.map UInt8.ofNat := by
  unfold Lib.bytesOf
  rw [List.map_map]
  exact List.map_congr_left fun n _ => by simp
theorem cellsL_in {W : World} {lb lo : Nat} {l : List Nat} (h : CellsL W lb lo l) : Lib.BytesIn W (some ⟨lb, lo, none⟩) l.length (l.map fun n : Nat => (n : Int)) := fun _ => ⟨lb, lo, rfl, fun i hi => by rw [h i hi]; simp [List.getD, hi]⟩

theorem conv_any (s : ByteArray) (w : World) : ∃ cap w1, (convert 9 22 (.string s)).run Tryz.prog w = .ok (.slice (some ⟨w.heap.size, 0, none⟩) s.size cap) w1 ∧ Below w.heap.size w w1 ∧ CellsL w1 w.heap.size 0 (natsOf s) ∧ w1.heap.size = w.heap.size + 1 := by
  have hr := RowU.conv w s
  refine ⟨grownCap w s.size 0 5, bytesWorld w 5 s, Lib.run_convert_string_bytes w 9 22 5 s Tryz.underlying9 Tryz.underlying22 Tryz.underlying5, below_bytesWorld w s, fun i hi => ?_, bytesWorld_size w 5 s⟩
  rw [natsOf_length] at hi
  rw [Nat.zero_add, hr.cell i (by rw [szl]; exact hi)]
  simp [natsOf]

/-- bytes.CutPrefix: what is left of a row -/
theorem cutpre_yes {W : World} {lb lo cap g c2 : Nat} {x y : List Nat} (hx : CellsL W lb lo x) (hy : CellsL W g 0 y) (hc : x.length ≤ cap) (hxb : ∀ n ∈ x, n < 256) (hyb : ∀ n ∈ y, n < 256) (h0 : y ≠ []) (h : y <+: x) :
    Calls Tryz.prog 56 #[.slice (some ⟨lb, lo, none⟩) x.length cap, .slice (some ⟨g, 0, none⟩) y.length c2] W fun e w' => e = .returned (.tuple #[.slice (some ⟨lb, if cap = y.length then lo else lo + y.length, none⟩) (x.length - y.length) (cap - y.length), .bool true]) ∧ w' = W := by
  have hp : Lib.hasPrefix (Lib.bytesOf (x.map fun n : Nat => (n : Int))) (Lib.bytesOf (y.map fun n : Nat => (n : Int))) = true := by
    rw [bytesOf_map, bytesOf_map]
    unfold Lib.hasPrefix
    rw [pre_map y x hxb hyb]
    exact decide_eq_true h
  refine (Tryz.bytes_CutPrefix_all (some ⟨lb, lo, none⟩) (some ⟨g, 0, none⟩) x.length cap y.length c2 _ _ W (by simp) (by simp) hc (cellsL_in hx) (cellsL_in hy)).mono ?_
  rintro e w' ⟨rfl, hw⟩
  refine ⟨?_, hw⟩
  rw [hp]
  cases y with
  | nil => exact absurd rfl h0
  | cons b y =>
    simp only [List.map_cons] at hp ⊢
    unfold Lib.trimPrefixV Lib.bytesTrimPrefix
    simp only
    rw [if_pos hp]
    unfold Lib.sliceFrom
    simp
    try split <;> rfl
theorem cutpre_no {W : World} {lb lo cap g c2 : Nat} {x y : List Nat} (hx : CellsL W lb lo x) (hy : CellsL W g 0 y) (hc : x.length ≤ cap) (hxb : ∀ n ∈ x, n < 256) (hyb : ∀ n ∈ y, n < 256) (h : ¬ y <+: x) :
    Calls Tryz.prog 56 #[.slice (some ⟨lb, lo, none⟩) x.length cap, .slice (some ⟨g, 0, none⟩) y.length c2] W fun e w' => (∃ v, e = .returned (.tuple #[v, .bool false])) ∧ w' = W := by
  have hp : Lib.hasPrefix (Lib.bytesOf (x.map fun n : Nat => (n : Int))) (Lib.bytesOf (y.map fun n : Nat => (n : Int))) = false := by
    rw [bytesOf_map, bytesOf_map]
    unfold Lib.hasPrefix
    rw [pre_map y x hxb hyb]
    exact decide_eq_false h
  refine (Tryz.bytes_CutPrefix_all (some ⟨lb, lo, none⟩) (some ⟨g, 0, none⟩) x.length cap y.length c2 _ _ W (by simp) (by simp) hc (cellsL_in hx) (cellsL_in hy)).mono ?_
  rintro e w' ⟨rfl, hw⟩
  rw [hp]
  exact ⟨⟨_, rfl⟩, hw⟩
/-- bytes.HasPrefix -/
theorem haspre_any {W : World} {lb lo cap g c2 : Nat} {x y : List Nat} (hx : CellsL W lb lo x) (hy : CellsL W g 0 y) (hc : x.length ≤ cap) (hxb : ∀ n ∈ x, n < 256) (hyb : ∀ n ∈ y, n < 256) :
    Calls Tryz.prog 57 #[.slice (some ⟨lb, lo, none⟩) x.length cap, .slice (some ⟨g, 0, none⟩) y.length c2] W fun e w' => e = .returned (.bool (decide (y <+: x))) ∧ w' = W := by
  have hp : Lib.hasPrefix (Lib.bytesOf (x.map fun n : Nat => (n : Int))) (Lib.bytesOf (y.map fun n : Nat => (n : Int))) = decide (y <+: x) := by
    rw [bytesOf_map, bytesOf_map]
    unfold Lib.hasPrefix
    rw [pre_map y x hxb hyb]
  rw [← hp]
  exact Tryz.bytes_HasPrefix_all (some ⟨lb, lo, none⟩) (some ⟨g, 0, none⟩) x.length cap y.length c2 _ _ W (by simp) (by simp) hc (cellsL_in hx) (cellsL_in hy)
end Go.Proofs.YtnncldnpkfjhbaaGreatDoor
