/-
  What stands in a text: bytes.Contains of both, folded.
-/
import Derived.Test.YtopocmihbmaamaaGreatDoorFlag
import Derived.Test.YtopocmihbmaamaaGreatDoorShelf
namespace Go.Proofs.YtopocmihbmaamaaGreatDoor
set_option linter.unusedVariables false
open Go.RowKit Go.Lib

def MaxV (w : World) : Prop := ∃ m, w.cell? ⟨0, 0, none⟩ = some (.int .i64 m)
theorem MaxV.below {w w' : World} (h : MaxV w) (hb : Below w.heap.size w w') : MaxV w' := by
  obtain ⟨m, h⟩ := h
  exact ⟨m, (hb.cell (p := ⟨0, 0, none⟩) (World.block_lt_of_cell? w _ h)).trans h⟩
theorem bytes_of (l : Tx) : Lib.bytesOf (l.map fun b => (b.toNat : Int)) = l := by
  unfold Lib.bytesOf
  rw [List.map_map]
  conv => rhs; rw [← List.map_id l]
  refine List.map_congr_left fun c _ => ?_
  simp
theorem RowU.below {w w' : World} {g S : Nat} {l : Tx} (h : RowU w g l) (hb : Below S w w') (hg : g < S) : RowU w' g l :=
  ⟨fun j hj => (hb.cell (p := ⟨g, j, none⟩) hg).trans (h.cell j hj), fun j hj => by
    rw [World.frozen?_of_block (w := w) (by exact hb.block g hg)]
    exact h.free j hj⟩
theorem contains_any (W : World) (g1 g2 c1 c2 : Nat) (l1 l2 : Tx) (h1 : RowU W g1 l1) (h2 : RowU W g2 l2) (hc : l1.length ≤ c1) (hs : l1.length ≤ 100000) (hs2 : l2.length ≤ 100000) (hm : MaxV W) :
    Calls Tryz.prog 43 #[.slice (some ⟨g1, 0, none⟩) l1.length c1, .slice (some ⟨g2, 0, none⟩) l2.length c2] W fun e w' => e = .returned (.bool (Lib.contains l1 l2)) ∧ Below W.heap.size W w' := by
  obtain ⟨m, hm⟩ := hm
  have h := Tryz.bytes_Contains_at ⟨g1, 0, none⟩ ⟨g2, 0, none⟩ l1.length c1 l2.length c2 (l1.map fun b => (b.toNat : Int)) (l2.map fun b => (b.toNat : Int)) m W (by simp) (by simp)
    (by intro x hx; obtain ⟨b, _, rfl⟩ := List.mem_map.1 hx; have := b.toNat_lt; omega) (by intro x hx; obtain ⟨b, _, rfl⟩ := List.mem_map.1 hx; have := b.toNat_lt; omega)
    (fun i hi => by rw [Addr.add_lit, Nat.zero_add, h1.cell i hi]; simp [List.getD, List.getElem?_eq_getElem hi])
    (fun i hi => by rw [Addr.add_lit, Nat.zero_add, h2.cell i hi]; simp [List.getD, List.getElem?_eq_getElem hi]) hc (by omega) (by omega) hm
  rw [bytes_of, bytes_of] at h
  exact h.mono fun e w' ⟨he, q, hw⟩ => ⟨he, by rw [hw]; exact below_drewN (Below.refl _ _) q⟩
theorem Small44 (l : Tx) (hl : l.length ≤ 140737488351232) (w : World) : Calls Tryz.prog 44 #[.string (strL l)] w fun e w' => e = .returned (.string (strL (foldL l))) ∧ Below w.heap.size w w' := by
  have HS := Lib.hid (small_t l hl)
  go_enter Tryz.func44, Tryz.ntmps44
  go_wp2_with fail
  refine (HS.out _).mono ?_
  rintro e w1 ⟨rfl, hb1⟩
  go_wp2_with fail
  go_ret
  exact ⟨rfl, hb1⟩
/-- a text as fresh bytes -/
theorem conv_u (l : Tx) (w : World) : ∃ cap w1, (convert 9 22 (.string (strL l))).run Tryz.prog w = .ok (.slice (some ⟨w.heap.size, 0, none⟩) l.length cap) w1 ∧ l.length ≤ cap ∧ Below w.heap.size w w1 ∧ RowU w1 w.heap.size l ∧ w1.heap.size = w.heap.size + 1 := by
  have hs1 : (bytesWorld w 5 (strL l)).heap.size = w.heap.size + 1 := bytesWorld_size w 5 (strL l)
  have hsz : (strL l).size = l.length := rfl
  refine ⟨grownCap w (strL l).size 0 5, bytesWorld w 5 (strL l), ?_, by rw [← hsz]; exact grownCap_ge _ _ _ _, below_bytesWorld w _, RowU.conv w (strL l), hs1⟩
  rw [← hsz]
  exact Lib.run_convert_string_bytes w 9 22 5 (strL l) Tryz.underlying9 Tryz.underlying22 Tryz.underlying5
theorem strN_nat (l : Tx) : strN (l.map UInt8.toNat) = strL l := by
  unfold strN strL
  rw [List.map_map]
  congr 1
  congr 1
  conv => rhs; rw [← List.map_id l]
  refine List.map_congr_left fun c _ => ?_
  simp

set_option maxRecDepth 100000 in
set_option maxHeartbeats 4000000 in
theorem stands_any (v : Value) (l s : Tx) (w : World) (hr : RowB w v (l.map UInt8.toNat)) (hl : l.length ≤ 100000) (hs : s.length ≤ 100000) (hm : MaxV w) :
    Calls Tryz.prog 33 #[v, .string (strL s)] w fun e w' => e = .returned (.bool (Lib.contains (foldL l) (foldL s))) ∧ Below w.heap.size w w' := by
  have hcv := run_str hr
  rw [strN_nat] at hcv
  have fl : (foldL l).length = l.length := by simp [foldL]
  have fs : (foldL s).length = s.length := by simp [foldL]
  have HM := Lib.hid hm
  have HL := Lib.hid (fun W => Small44 l (by omega) W)
  have HS := Lib.hid (fun W => Small44 s (by omega) W)
  have HFL : Hid ((foldL l).length ≤ 100000) := Lib.hid (by omega)
  have HFS : Hid ((foldL s).length ≤ 100000) := Lib.hid (by omega)
  clear hr hm fl fs
  go_enter Tryz.func33, Tryz.ntmps33
  go_wp2_with fail
  refine (HL.out _).mono ?_
  rintro e w1 ⟨rfl, hb1⟩
  have HB1 := Lib.hid hb1
  obtain ⟨cap1, w2, hc1, hcap1, hb2, hu2, hz2⟩ := conv_u (foldL l) w1
  have HB2 := Lib.hid (hb1.trans (hb2.mono hb1.size))
  have HU2 := Lib.hid hu2
  have HZ2 := Lib.hid hz2
  clear hb1 hb2 hu2 hz2 hcv
  go_wp2_with fail
  clear hc1
  refine (HS.out _).mono ?_
  rintro e w3 ⟨rfl, hb3⟩
  obtain ⟨cap2, w4, hc2, hcap2, hb4, hu4, hz4⟩ := conv_u (foldL s) w3
  have HU3 := Lib.hid ((HU2.out.below hb3 (by have := HZ2.out; omega)).below hb4 (by have := HZ2.out; have := hb3.size; omega))
  have HU4 := Lib.hid hu4
  have HB4 := Lib.hid ((HB2.out.trans (hb3.mono HB2.out.size)).trans (hb4.mono (by have := HB2.out.size; have := hb3.size; omega)))
  clear hb3 hb4 hu4 hz4
  go_wp2_with fail
  clear hc2
  refine (contains_any w4 _ _ cap1 cap2 (foldL l) (foldL s) HU3.out HU4.out hcap1 HFL.out HFS.out (HM.out.below HB4.out)).mono ?_
  rintro e w5 ⟨rfl, hb5⟩
  go_wp2_with fail
  go_ret
  exact ⟨rfl, HB4.out.trans (hb5.mono HB4.out.size)⟩
end Go.Proofs.YtopocmihbmaamaaGreatDoor
