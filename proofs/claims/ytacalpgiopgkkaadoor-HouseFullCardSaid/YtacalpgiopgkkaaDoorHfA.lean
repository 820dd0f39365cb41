/-
  Names: how many they are (slices.Sorted of maps.Keys by the library's contracts).
-/
import Derived.Shelf.SlIter.Nil
import Derived.Shelf.SortM.Plain
import Derived.Shelf.SortM.SortNone
import Derived.Ground.GgzProg
import Derived.Ground.SlgmProg
import Derived.Test.YtacalpgiopgkkaaDoorProg
import Derived.Test.YtacalpgiopgkkaaDoorMapS
import Derived.Maps.Own
import Derived.Maps.Range
import Derived.Sort.KeysCollected
import Derived.Test.YtacalpgiopgkkaaDoorHse
import Derived.TacticsInMore
import Derived.RangeFuncCalls

section
namespace Go.Proofs
open Go.Shelf
def Tryd.keys16_ren : Go.Shelf.Ren := ⟨fun | 7 => 16 | 10 => 27 | n => n, fun | 23 => 36 | 26 => 9 | 3 => 50 | 28 => 55 | 0 => 0 | 27 => 54 | 33 => 51 | 4 => 4 | n => n, fun | n => n⟩
theorem Tryd.keys16 : Go.Proofs.SlLaysZ.n7 Tryd.prog Tryd.keys16_ren := {
  mixed := by kernel_rfl
  f7 := ⟨Tryd.f16.name, by decide, Tryd.func16.trans (congrArg some (by kernel_rfl))⟩
  f10 := ⟨Tryd.f27.name, by decide, Tryd.func27.trans (congrArg some (by kernel_rfl))⟩
  t0 := Tryd.underlying0
  a0 := Tryd.isAgg0
  z0 := Tryd.sizeOf0
  v0 := Tryd.zeroValue0
  t4 := Tryd.underlying4
  a4 := Tryd.isAgg4
  z4 := Tryd.sizeOf4
  v4 := Tryd.zeroValue4
  t23 := Tryd.underlying36
  a23 := Tryd.isAgg36
  z23 := Tryd.sizeOf36
  v23 := Tryd.zeroValue36
  t26 := Tryd.underlying9
  a26 := Tryd.isAgg9
  z26 := Tryd.sizeOf9
  v26 := Tryd.zeroValue9
  t27 := Tryd.underlying54
  a27 := Tryd.isAgg54
  z27 := Tryd.sizeOf54
  v27 := Tryd.zeroValue54
  t28 := Tryd.underlying55
  a28 := Tryd.isAgg55
  z28 := Tryd.sizeOf55
  v28 := Tryd.zeroValue55
  t33 := Tryd.underlying51
  a33 := Tryd.isAgg51
  z33 := Tryd.sizeOf51
  v33 := Tryd.zeroValue51 }
def Tryd.sorted15_ren : Go.Shelf.Ren := ⟨fun | 6 => 15 | 8 => 25 | 9 => 26 | 11 => 37 | 13 => 39 | 12 => 38 | 23 => 61 | 24 => 62 | 14 => 52 | 15 => 53 | 16 => 54 | 17 => 55 | 18 => 56 | 19 => 57 | 20 => 58 | 21 => 59 | 22 => 60 | 25 => 69 | 26 => 70 | 27 => 71 | 28 => 72 | 29 => 73 | 30 => 74 | 31 => 83 | n => n, fun | 26 => 9 | 28 => 55 | 24 => 33 | 0 => 0 | 3 => 3 | 37 => 25 | 48 => 26 | 50 => 32 | 4 => 4 | 40 => 107 | 39 => 106 | 45 => 94 | 5 => 5 | 9 => 9 | 51 => 118 | 55 => 122 | 57 => 134 | 58 => 135 | 33 => 51 | n => n, fun | n => n⟩
theorem Tryd.sorted15 : Go.Proofs.SlLaysZ.n6 Tryd.prog Tryd.sorted15_ren := {
  mixed := by kernel_rfl
  f6 := ⟨Tryd.f15.name, by decide, Tryd.func15.trans (congrArg some (by kernel_rfl))⟩
  f8 := ⟨Tryd.f25.name, by decide, Tryd.func25.trans (congrArg some (by kernel_rfl))⟩
  f11 := ⟨Tryd.f37.name, by decide, Tryd.func37.trans (congrArg some (by kernel_rfl))⟩
  t0 := Tryd.underlying0
  a0 := Tryd.isAgg0
  z0 := Tryd.sizeOf0
  v0 := Tryd.zeroValue0
  t24 := Tryd.underlying33
  a24 := Tryd.isAgg33
  z24 := Tryd.sizeOf33
  v24 := Tryd.zeroValue33
  t26 := Tryd.underlying9
  a26 := Tryd.isAgg9
  z26 := Tryd.sizeOf9
  v26 := Tryd.zeroValue9
  t28 := Tryd.underlying55
  a28 := Tryd.isAgg55
  z28 := Tryd.sizeOf55
  v28 := Tryd.zeroValue55
  i26 := by kernel_rfl }
def Tryd.sort26_ren : Go.Shelf.Ren := ⟨fun | 6 => 26 | 8 => 39 | 9 => 38 | 19 => 61 | 20 => 62 | 21 => 52 | 22 => 53 | 23 => 54 | 24 => 55 | 25 => 56 | 26 => 57 | 27 => 58 | 28 => 59 | 29 => 60 | 36 => 69 | 31 => 70 | 32 => 71 | 37 => 72 | 38 => 73 | 39 => 74 | 41 => 83 | n => n, fun | 27 => 33 | 29 => 9 | 3 => 3 | 32 => 25 | 26 => 33 | 0 => 0 | 44 => 26 | 46 => 32 | 4 => 4 | 36 => 107 | 35 => 106 | 41 => 94 | 5 => 5 | 9 => 9 | 53 => 118 | 57 => 122 | 63 => 134 | 64 => 135 | n => n, fun | n => n⟩
theorem Tryd.sort26 : Go.Proofs.SlLaysM.n6 Tryd.prog Tryd.sort26_ren := {
  mixed := by kernel_rfl
  f6 := ⟨Tryd.f26.name, by decide, Tryd.func26.trans (congrArg some (by kernel_rfl))⟩
  f8 := Tryd.func39.trans (congrArg some (by kernel_rfl))
  f9 := ⟨Tryd.f38.name, by decide, Tryd.func38.trans (congrArg some (by kernel_rfl))⟩
  f19 := Tryd.func61.trans (congrArg some (by kernel_rfl))
  f20 := Tryd.func62.trans (congrArg some (by kernel_rfl))
  f21 := ⟨Tryd.f52.name, by decide, Tryd.func52.trans (congrArg some (by kernel_rfl))⟩
  f22 := ⟨Tryd.f53.name, by decide, Tryd.func53.trans (congrArg some (by kernel_rfl))⟩
  f23 := ⟨Tryd.f54.name, by decide, Tryd.func54.trans (congrArg some (by kernel_rfl))⟩
  f24 := ⟨Tryd.f55.name, by decide, Tryd.func55.trans (congrArg some (by kernel_rfl))⟩
  f25 := ⟨Tryd.f56.name, by decide, Tryd.func56.trans (congrArg some (by kernel_rfl))⟩
  f26 := ⟨Tryd.f57.name, by decide, Tryd.func57.trans (congrArg some (by kernel_rfl))⟩
  f27 := ⟨Tryd.f58.name, by decide, Tryd.func58.trans (congrArg some (by kernel_rfl))⟩
  f28 := ⟨Tryd.f59.name, by decide, Tryd.func59.trans (congrArg some (by kernel_rfl))⟩
  f29 := ⟨Tryd.f60.name, by decide, Tryd.func60.trans (congrArg some (by kernel_rfl))⟩
  f31 := Tryd.func70.trans (congrArg some (by kernel_rfl))
  f32 := Tryd.func71.trans (congrArg some (by kernel_rfl))
  f36 := ⟨Tryd.f69.name, by decide, Tryd.func69.trans (congrArg some (by kernel_rfl))⟩
  f37 := ⟨Tryd.f72.name, by decide, Tryd.func72.trans (congrArg some (by kernel_rfl))⟩
  f38 := ⟨Tryd.f73.name, by decide, Tryd.func73.trans (congrArg some (by kernel_rfl))⟩
  f39 := ⟨Tryd.f74.name, by decide, Tryd.func74.trans (congrArg some (by kernel_rfl))⟩
  f41 := ⟨Tryd.f83.name, by decide, Tryd.func83.trans (congrArg some (by kernel_rfl))⟩
  t0 := Tryd.underlying0
  a0 := Tryd.isAgg0
  z0 := Tryd.sizeOf0
  v0 := Tryd.zeroValue0
  t3 := Tryd.underlying3
  a3 := Tryd.isAgg3
  z3 := Tryd.sizeOf3
  v3 := Tryd.zeroValue3
  t4 := Tryd.underlying4
  a4 := Tryd.isAgg4
  z4 := Tryd.sizeOf4
  v4 := Tryd.zeroValue4
  t5 := Tryd.underlying5
  a5 := Tryd.isAgg5
  z5 := Tryd.sizeOf5
  v5 := Tryd.zeroValue5
  t9 := Tryd.underlying9
  a9 := Tryd.isAgg9
  z9 := Tryd.sizeOf9
  v9 := Tryd.zeroValue9
  t26 := Tryd.underlying33
  a26 := Tryd.isAgg33
  z26 := Tryd.sizeOf33
  v26 := Tryd.zeroValue33
  t27 := Tryd.underlying33
  a27 := Tryd.isAgg33
  z27 := Tryd.sizeOf33
  v27 := Tryd.zeroValue33
  t29 := Tryd.underlying9
  a29 := Tryd.isAgg9
  z29 := Tryd.sizeOf9
  v29 := Tryd.zeroValue9
  t32 := Tryd.underlying25
  a32 := Tryd.isAgg25
  z32 := Tryd.sizeOf25
  v32 := Tryd.zeroValue25
  t35 := Tryd.underlying106
  a35 := Tryd.isAgg106
  z35 := Tryd.sizeOf106
  v35 := Tryd.zeroValue106
  t36 := Tryd.underlying107
  a36 := Tryd.isAgg107
  z36 := Tryd.sizeOf107
  v36 := Tryd.zeroValue107
  t41 := Tryd.underlying94
  a41 := Tryd.isAgg94
  z41 := Tryd.sizeOf94
  v41 := Tryd.zeroValue94
  t44 := Tryd.underlying26
  a44 := Tryd.isAgg26
  z44 := Tryd.sizeOf26
  v44 := Tryd.zeroValue26
  t46 := Tryd.underlying32
  a46 := Tryd.isAgg32
  z46 := Tryd.sizeOf32
  v46 := Tryd.zeroValue32
  t53 := Tryd.underlying118
  a53 := Tryd.isAgg118
  z53 := Tryd.sizeOf118
  v53 := Tryd.zeroValue118
  t57 := Tryd.underlying122
  a57 := Tryd.isAgg122
  z57 := Tryd.sizeOf122
  v57 := Tryd.zeroValue122
  t63 := Tryd.underlying134
  a63 := Tryd.isAgg134
  z63 := Tryd.sizeOf134
  v63 := Tryd.zeroValue134
  t64 := Tryd.underlying135
  a64 := Tryd.isAgg135
  z64 := Tryd.sizeOf135
  v64 := Tryd.zeroValue135 }
open Go.RowKit Go.Maps Go.Sort Go.Shelf in
/-- slices.Sort's two contracts at this dump, at the fence that asks nothing. -/
theorem Tryd.sorts15 (m : Nat) : AnyZ.SortsIn Tryd.prog Tryd.sorted15_ren Fence.wide m :=
  ⟨fun blk off cap ss W hH hblk hsz => callsIn_wide.2 (AnyM.slices_Sort_string Tryd.sort26 blk off cap ss W hH hblk hsz),
   fun p cap W => callsIn_wide.2 (AnyM.slices_Sort_string_none Tryd.sort26 p cap W)⟩
open Go.RowKit Go.Maps Go.Sort Go.Shelf in
/-- **maps.Keys[map[string]*cubby/house.box,string,*cubby/house.box], at whatever map, the nil one too:** a function value over ONE NEW BLOCK, which holds the map. -/
theorem Tryd.maps_Keys_16 (mb : Option Nat) (W : World) : CallsIn Fence.wide 5 Tryd.prog 16 #[.map mb] W fun e w' => e = .returned (.func (.func 27) #[] #[.pointer (some ⟨W.heap.size, 0, none⟩)]) ∧ w' = W.alloc (.cells #[.map mb] 36) :=
  AnyZ.keys_in Tryd.keys16 Fence.wide 5 trivial rfl mb W
end Go.Proofs
end

section
namespace Go.Proofs
open Go.RowKit Go.Maps Go.Sort Go.Shelf

set_option maxHeartbeats 1000000 in
/-- **slices.Sorted[string] AT WHAT maps.Keys[map[string]*cubby/house.box,string,*cubby/house.box] HANDED BACK FOR A MAP THAT IS NOT nil** ('w': the world AHEAD of maps.Keys' call): A NEW SLICE THAT HOLDS THE MAP's KEYS, SORTED; nil just where it has none; nothing that lay before has turned. -/
theorem Tryd.slices_Sorted_keys_15_16 {H : Type} (b nn : Nat) (D0 : DataW H) (R : Value → Option (DataW H × List MemPlace)) (w : World) (hown : w.ownsMap Tryd.prog 9 R b nn D0) (hmax : Maps.size D0 ≤ maxLen) (hbytes : Maps.size D0 * 16 ≤ 140737488355328) :
    CallsIn Fence.wide 5 Tryd.prog 15 #[.func (.func 27) #[] #[.pointer (some ⟨w.heap.size, 0, none⟩)]] (w.alloc (.cells #[.map (some b)] 36)) fun e w' => ∃ (v : Value) (ss : List (List UInt8)), e = .returned v ∧ ss.Perm (strKeys D0) ∧
      w'.ownsRow (w.alloc (.cells #[.map (some b)] 36)).heap.size 9 1 v ss.length ((ss.mergeSort (fun x y => decide (x ≤ y))).map encStr) ∧ (v = .slice none 0 0 ↔ ss = []) ∧ Below (w.alloc (.cells #[.map (some b)] 36)).heap.size (w.alloc (.cells #[.map (some b)] 36)) w' := by
  have hbl := hown.lt
  have hseq : SeqGives Fence.wide 2 Tryd.prog 27 #[.pointer (some ⟨w.heap.size, 0, none⟩)] encStr (fun ss => ss.Perm (strKeys D0)) (Maps.size D0) (w.alloc (.cells #[.map (some b)] 36)) :=
    AnyZ.keys_gives (ρ := Tryd.keys16_ren) { Tryd.keys16 with } Fence.wide _ trivial rfl (by omega) w.heap.size b nn D0 _ (by simp) (by simp) (by
      obtain ⟨es, clock, hb, Ft, hs, hD⟩ := hown
      exact ⟨es, clock, (Below.heap_alloc _ _ b hbl).trans hb, Ft, hs, hD⟩)
  exact AnyZ.sorted_in Tryd.sorted15 Fence.wide 5 trivial trivial trivial trivial rfl (by omega) (Tryd.sorts15 _) (enters_of Tryd.func26 (by kernel_rfl) rfl) 27 #[.pointer (some ⟨w.heap.size, 0, none⟩)] trivial (enters_of Tryd.func27 (by kernel_rfl) rfl) _ _ hmax hbytes _ hseq
end Go.Proofs
end

section
namespace Go.Proofs.YtacalpgiopgkkaaDoor
set_option linter.unusedVariables false
open Go Go.RowKit Go.MapKept Go.Sort
open Go.WideElems (Fit rd rg)

theorem own_map {w : World} {m c : Nat} {L : List (ByteArray × Nat × Nat)} (h : BMap w m L c) (h1 : ∀ x ∈ L, x.2.2 < c) (h2 : (L.map (·.2.2)).Nodup) (h3 : (L.map (·.1)).Nodup) (h4 : ∀ x ∈ L, x.1.size ≤ maxLen) (h5 : L.length ≤ maxLen) :
    ∃ D0 : DataW Unit, w.ownsMap Tryd.prog 9 (fun _ => some (.nil, [])) m L.length D0 ∧ Maps.size D0 = L.length ∧ (strKeys D0).length = L.length := by
  have hrd : ∀ x ∈ (L.map entB).toArray.toList, ∃ y, Go.WideElems.rd Tryd.prog 9 (fun _ => some ((.nil : DataW Unit), [])) x = some y := by
    intro x hx
    simp only [List.mem_map] at hx
    obtain ⟨y, hy, rfl⟩ := hx
    exact ⟨_, by unfold Go.WideElems.rd; rw [show (entB y).key = .string y.1 from rfl, Go.WideMaps.keyOf_string_mk Tryd.underlying9 (h4 y hy)]; rfl⟩
  refine ⟨_, ⟨_, _, h, ⟨by simpa using h5, ⟨?_, ?_, ?_⟩, hrd⟩, by simp, rfl⟩, ?_, ?_⟩
  · intro x hx
    simp only [List.mem_map] at hx
    obtain ⟨y, hy, rfl⟩ := hx
    exact h1 y hy
  · simpa [List.map_map, Function.comp_def, entB] using h2
  · have : (L.map fun y => Value.string y.1) = (L.map (·.1)).map Value.string := by simp [List.map_map, Function.comp_def]
    simp only [List.map_map, Function.comp_def, entB]
    rw [this]
    exact List.pairwise_map.2 (h3.imp fun hne e => hne (by cases e; rfl))
  · rw [Go.Maps.size_eq, (WideShapes.sorted_perm _).length_eq]
    simp
  · simp only [strKeys, List.length_map, (WideShapes.sorted_perm _).length_eq]
end Go.Proofs.YtacalpgiopgkkaaDoor
end

section
namespace Go.Proofs.YtacalpgiopgkkaaDoor
set_option linter.unusedVariables false
open Go Go.RowKit Go.MapKept Go.Sort

set_option maxRecDepth 100000 in
set_option maxHeartbeats 1000000 in
theorem names_any (w : World) (p m c : Nat) (vd : Int) (L : List (ByteArray × Nat × Nat)) (hp : At w p [.map (some m), .int .u32 vd] 38) (hm : BMap w m L c) (h1 : ∀ x ∈ L, x.2.2 < c) (h2 : (L.map (·.2.2)).Nodup) (h3 : (L.map (·.1)).Nodup) (h4 : ∀ x ∈ L, x.1.size ≤ 60) (h5 : L.length ≤ 24) :
    Calls Tryd.prog 9 #[.pointer (some ⟨p, 0, none⟩)] w fun e w' => ∃ a cp, e = .returned (.slice a L.length cp) ∧ Below w.heap.size w w' := by
  obtain ⟨D0, ho, hs, hk⟩ := own_map hm h1 h2 h3 (fun x hx => Nat.le_trans (h4 x hx) (by decide)) (Nat.le_trans h5 (by decide))
  have hS := Tryd.slices_Sorted_keys_15_16 m L.length D0 _ w ho (by rw [hs]; exact Nat.le_trans h5 (by decide)) (by omega)
  have HS := Lib.hid hS
  have HK := Lib.hid hk
  have c0 := hp.cell 0 _ rfl
  have hfK : Fence.wide.fn 16 := trivial
  have hfS : Fence.wide.fn 15 := trivial
  clear hS ho hs hk h1 h2 h3 h4 h5 hm hp
  refine (callsIn_wide (n := 6)).1 ?_
  refine callsIn_of_wp_marks Tryd.func9 rfl trivial ?_ rfl
  simp only [Tryd.ntmps9, List.size_toArray, List.length_cons, List.length_nil, Nat.reduceAdd, Nat.reduceSub, Array.replicate_succ, Array.replicate_zero, List.push_toArray, List.append_toArray, List.nil_append, List.cons_append]
  gi_wp2_with (first
    | (gi_at_call 16; refine (Tryd.maps_Keys_16 _ _).mono ?_; rintro e w' ⟨rfl, rfl⟩)
    | (gi_at_call 15; refine HS.out.mono ?_; rintro e w' ⟨v, ss, rfl, hSp, hrow, hnil, hb⟩))
  have hl : ss.length = L.length := hSp.length_eq.trans HK.out
  obtain ⟨a, cp, rfl⟩ : ∃ a c, v = .slice a ss.length c := by
    rcases hrow.2 with ⟨e, h0⟩ | ⟨g, cap, cur, e, _⟩
    · exact ⟨none, 0, by rw [e, h0]⟩
    · exact ⟨_, cap, e⟩
  refine ⟨_, results_tmp rfl _ _ _, ?_⟩
  exact ⟨a, cp, by rw [hl]; rfl, ((Below.refl _ w).alloc (Nat.le_refl _) _).trans (hb.mono (by simp))⟩
end Go.Proofs.YtacalpgiopgkkaaDoor
end
