/-
  An argument that is an op, opened.
-/
import Derived.Test.YtacalpgiopgkkaaGreatDoorNilW
import Derived.Deep.SlicePairs
import Derived.SizedLaws
namespace Go.Proofs.YtacalpgiopgkkaaGreatDoor
set_option linter.unusedVariables false
open Go.RowKit Go.Joins Go.ChangeShapes Go.WideShapes Go.Deep

theorem open_u32s {H : Type} {enc : TypeId × Value → H} {w : World} {fuel : Nat} {v : Value} {x : DataW H × List MemPlace}
    (h : DataW.trod enc Tryz.prog w 0 (fun _ => true) true fuel 31 [v] = some x) (hw : ∀ n ∈ x.1.weights Tryz.prog 31, n ≤ reachBytes) : ∃ (ua : Option Addr) (uc : Nat) (xs : List Int), v = .slice ua xs.length uc ∧ S9.RowV w 1 v xs.length (S9.u32s xs) ∧ xs.length ≤ 35184372087808 := by
  have b30 : Tryz.prog.bytesOf 30 = 4 := by kernel_rfl
  rcases open_ints (e := 30) (k := .u32) Tryz.underlying31 Tryz.underlying30 (by kernel_rfl) h with ⟨hcs, _⟩ | ⟨ad, len, cap, zs, hcs, _, hl, hm, hz, hx, hcell, hwz⟩
  · simp only [List.cons.injEq, and_true] at hcs
    subst hcs
    exact ⟨none, 0, [], rfl, S9.RowV.none_ w 1, by simp⟩
  · simp only [List.cons.injEq, and_true] at hcs
    subst hcs
    have hz' : zs.length = cap := by simpa using hz
    have hlen : (zs.take len).length = len := by simp; omega
    have hbd : len ≤ 35184372087808 := by
      have h9 := hw (((lits .u32 (zs.take len) : List (DataW H)).length + (lits .u32 (zs.drop len) : List (DataW H)).length) * Tryz.prog.bytesOf 30) (by rw [hx, DataW.weights, Tryz.underlying31]; exact List.mem_cons_self ..)
      rw [b30] at h9
      simp only [lits, List.length_map, List.length_take, List.length_drop, reachBytes] at h9
      omega
    refine ⟨some ad, cap, zs.take len, by rw [hlen], ⟨some ad, cap, by rw [hlen], by omega, hm, by simp, by simp, ?_⟩, by rw [hlen]; exact hbd⟩
    intro y hy j hj
    obtain rfl := Option.some.inj hy
    have hj' : j < len := by simpa [hlen] using hj
    rw [hcell j (by omega), S9.u32s_get _ j (by omega)]
    simp [List.getD, show j < zs.length by omega]

set_option maxRecDepth 100000 in
theorem open_op {H : Type} {enc : TypeId × Value → H} {w : World} {r : Reach} {b0 : Nat} {v : Value} {d : DataW H} {p : List MemPlace}
    (hv : Value.okWide Tryz.prog w r b0 33 v) (h : DataW.Trod enc Tryz.prog w 0 (fun _ => true) true 33 v d p) (hw : ∀ n ∈ d.weights Tryz.prog 33, n ≤ reachBytes) :
    ∃ (k : Int) (bx tx : ByteArray) (fa : Option Addr) (fn fc : Nat) (dt : ByteArray) (ba : Option Addr) (bn bc : Nat) (uid : Int) (ua : Option Addr) (uc : Nat) (xs : List Int) (dd : Int), v = .agg #[.int .i64 k, .string bx, .string tx, .slice fa fn fc, .string dt, .slice ba bn bc, .int .u32 uid, .slice ua xs.length uc, .int .i64 dd] ∧ S9.RowV w 1 (.slice ua xs.length uc) xs.length (S9.u32s xs) ∧ xs.length ≤ 35184372087808 := by
  obtain ⟨cs, rfl, hsz⟩ := okWide_struct Tryz.underlying33 hv
  obtain ⟨l⟩ := cs
  have hC : Tryz.prog.cellsOf 33 = 9 := by kernel_rfl
  match l, hsz.trans hC with
  | [c0, c1, c2, c3, c4, c5, c6, c7, c8], _ =>
    obtain ⟨fuel, hf⟩ := h
    obtain ⟨xs, n, _, hx, _, hlen, hg⟩ := DataW.trod_struct Tryz.underlying33 hf
    have h3 : Tryz.prog.cellsOf 3 = 1 := by kernel_rfl
    have h9 : Tryz.prog.cellsOf 9 = 1 := by kernel_rfl
    have h28 : Tryz.prog.cellsOf 28 = 1 := by kernel_rfl
    have h29 : Tryz.prog.cellsOf 29 = 1 := by kernel_rfl
    have h30 : Tryz.prog.cellsOf 30 = 1 := by kernel_rfl
    have h31 : Tryz.prog.cellsOf 31 = 1 := by kernel_rfl
    match xs, hlen with
    | [y0, y1, y2, y3, y4, y5, y6, y7, y8], _ =>
      have g0 : DataW.trod enc Tryz.prog w 0 (fun _ => true) true n 3 [c0] = some y0 := by simpa [Value.cells, h3] using hg 0 _ rfl
      have g1 : DataW.trod enc Tryz.prog w 0 (fun _ => true) true n 9 [c1] = some y1 := by simpa [Value.cells, h9] using hg 1 _ rfl
      have g2 : DataW.trod enc Tryz.prog w 0 (fun _ => true) true n 9 [c2] = some y2 := by simpa [Value.cells, h9] using hg 2 _ rfl
      have g3 : DataW.trod enc Tryz.prog w 0 (fun _ => true) true n 28 [c3] = some y3 := by simpa [Value.cells, h28] using hg 3 _ rfl
      have g4 : DataW.trod enc Tryz.prog w 0 (fun _ => true) true n 9 [c4] = some y4 := by simpa [Value.cells, h9] using hg 4 _ rfl
      have g5 : DataW.trod enc Tryz.prog w 0 (fun _ => true) true n 29 [c5] = some y5 := by simpa [Value.cells, h29] using hg 5 _ rfl
      have g6 : DataW.trod enc Tryz.prog w 0 (fun _ => true) true n 30 [c6] = some y6 := by simpa [Value.cells, h30] using hg 6 _ rfl
      have g7 : DataW.trod enc Tryz.prog w 0 (fun _ => true) true n 31 [c7] = some y7 := by simpa [Value.cells, h31] using hg 7 _ rfl
      have g8 : DataW.trod enc Tryz.prog w 0 (fun _ => true) true n 3 [c8] = some y8 := by simpa [Value.cells, h3] using hg 8 _ rfl
      obtain ⟨n0, e0, _, _⟩ := DataW.trod_int Tryz.underlying3 g0
      obtain ⟨s1, e1, _, _⟩ := DataW.trod_string Tryz.underlying9 g1
      obtain ⟨s2, e2, _, _⟩ := DataW.trod_string Tryz.underlying9 g2
      obtain ⟨s4, e4, _, _⟩ := DataW.trod_string Tryz.underlying9 g4
      obtain ⟨n6, e6, _, _⟩ := DataW.trod_int Tryz.underlying30 g6
      obtain ⟨n8, e8, _, _⟩ := DataW.trod_int Tryz.underlying3 g8
      simp only [List.cons.injEq, and_true] at e0 e1 e2 e4 e6 e8
      subst e0 e1 e2 e4 e6 e8
      have hs3 : ∃ fa fn fc, c3 = .slice fa fn fc := by
        rcases DataW.trod_slice Tryz.underlying28 g3 with ⟨h, _⟩ | ⟨a, len, cap, _, _, _, _, h, _⟩
        · simp only [List.cons.injEq, and_true] at h; exact ⟨_, _, _, h⟩
        · simp only [List.cons.injEq, and_true] at h; exact ⟨_, _, _, h⟩
      obtain ⟨fa, fn, fc, rfl⟩ := hs3
      have hs5 : ∃ fa fn fc, c5 = .slice fa fn fc := by
        rcases DataW.trod_slice Tryz.underlying29 g5 with ⟨h, _⟩ | ⟨a, len, cap, _, _, _, _, h, _⟩
        · simp only [List.cons.injEq, and_true] at h; exact ⟨_, _, _, h⟩
        · simp only [List.cons.injEq, and_true] at h; exact ⟨_, _, _, h⟩
      obtain ⟨ba, bn, bc, rfl⟩ := hs5
      have hwe : ∀ n ∈ DataW.weightsEach Tryz.prog [3, 9, 9, 28, 9, 29, 30, 31, 3] [y0.1, y1.1, y2.1, y3.1, y4.1, y5.1, y6.1, y7.1, y8.1], n ≤ reachBytes := fun n hn => hw n (by
        have hD : d = DataW.agg [y0.1, y1.1, y2.1, y3.1, y4.1, y5.1, y6.1, y7.1, y8.1] := (Prod.mk.inj hx).1
        rw [hD, DataW.weights, Tryz.underlying33]
        exact hn)
      obtain ⟨ua, uc, L, rfl, hL, hl⟩ := open_u32s g7 (fun n hn => hwe n (DataW.weights_mem_each (j := 7) rfl rfl n hn))
      exact ⟨n0, s1, s2, fa, fn, fc, s4, ba, bn, bc, n6, ua, uc, L, n8, rfl, hL, hl⟩
end Go.Proofs.YtacalpgiopgkkaaGreatDoor
