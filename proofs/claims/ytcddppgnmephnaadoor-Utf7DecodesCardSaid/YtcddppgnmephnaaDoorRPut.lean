/-
  The reference's writer in its block; its put.
-/
import Derived.Test.YtcddppgnmephnaaDoorPut
import Derived.Deep.DeepCutAuto
import Derived.BigRegion
namespace Go.Proofs.YtcddppgnmephnaaDoor
set_option linter.unusedVariables false
open Go.RowKit Go.Lib

def strL (l : List UInt8) : ByteArray := ⟨l.toArray⟩
/-- the reference's writer in block p -/
structure RAt (w : World) (p : Nat) (W : Wr) : Prop where
  row : w.heap[p]? = some (.cells #[.string (strL W.out), .int .u32 (W.acc : Int), .int .i64 (W.bits : Int), .bool W.inn] 41 (0, 0))
theorem RAt.at {w : World} {p : Nat} {W : Wr} (k : RAt w p W) :
    w.cell? ⟨p, 0, none⟩ = some (.string (strL W.out)) ∧ w.cell? ⟨p, 1, none⟩ = some (.int .u32 (W.acc : Int)) ∧ w.cell? ⟨p, 2, none⟩ = some (.int .i64 (W.bits : Int)) ∧ w.cell? ⟨p, 3, none⟩ = some (.bool W.inn) ∧
    w.frozen? ⟨p, 0, none⟩ = false ∧ w.frozen? ⟨p, 1, none⟩ = false ∧ w.frozen? ⟨p, 2, none⟩ = false ∧ w.frozen? ⟨p, 3, none⟩ = false := by
  have c : ∀ j, w.cell? ⟨p, j, none⟩ = (#[.string (strL W.out), .int .u32 (W.acc : Int), .int .i64 (W.bits : Int), .bool W.inn] : Array Value)[j]? := fun j => cell_of_row _ _ j _ 41 (0, 0) k.row
  have x : ∀ j, w.frozen? ⟨p, j, none⟩ = false := fun j => frozen_of_row _ _ _ _ _ k.row
  exact ⟨c 0, c 1, c 2, c 3, x 0, x 1, x 2, x 3⟩
theorem RAt.lt {w : World} {p : Nat} {W : Wr} (k : RAt w p W) : p < w.heap.size := (Array.getElem?_eq_some_iff.1 k.row).1
theorem RAt.set0 {w : World} {p : Nat} {W : Wr} (k : RAt w p W) (o : List UInt8) : RAt (w.setCell ⟨p, 0, none⟩ (.string (strL o))) p { W with out := o } := ⟨heap_setCell_same w p 0 _ _ _ k.row⟩
theorem RAt.set1 {w : World} {p : Nat} {W : Wr} (k : RAt w p W) (n : Nat) : RAt (w.setCell ⟨p, 1, none⟩ (.int .u32 (n : Int))) p { W with acc := n } := ⟨heap_setCell_same w p 1 _ _ _ k.row⟩
theorem RAt.set2 {w : World} {p : Nat} {W : Wr} (k : RAt w p W) (n : Nat) : RAt (w.setCell ⟨p, 2, none⟩ (.int .i64 (n : Int))) p { W with bits := n } := ⟨heap_setCell_same w p 2 _ _ _ k.row⟩
theorem RAt.set3 {w : World} {p : Nat} {W : Wr} (k : RAt w p W) (b : Bool) : RAt (w.setCell ⟨p, 3, none⟩ (.bool b)) p { W with inn := b } := ⟨heap_setCell_same w p 3 _ _ _ k.row⟩
theorem RAt.keep {w w' : World} {p S : Nat} {W : Wr} (k : RAt w p W) (hb : Below S w w') (hS : p < S) : RAt w' p W := ⟨by rw [hb.block _ hS]; exact k.row⟩
theorem RAt.drew {w : World} {p : Nat} {W : Wr} (k : RAt w p W) : RAt w.drew p W := ⟨k.row⟩

theorem dig_cut (k : Nat) (hk : k < 64) : (⟨#[65, 66, 67, 68, 69, 70, 71, 72, 73, 74, 75, 76, 77, 78, 79, 80, 81, 82, 83, 84, 85, 86, 87, 88, 89, 90, 97, 98, 99, 100, 101, 102, 103, 104, 105, 106, 107, 108, 109, 110, 111, 112, 113, 114, 115, 116, 117, 118, 119, 120, 121, 122, 48, 49, 50, 51, 52, 53, 54, 55, 56, 57, 43, 44]⟩ : ByteArray).extract k (k + 1) = strL [digit k] := by
  have : ∀ k : Fin 64, (⟨#[65, 66, 67, 68, 69, 70, 71, 72, 73, 74, 75, 76, 77, 78, 79, 80, 81, 82, 83, 84, 85, 86, 87, 88, 89, 90, 97, 98, 99, 100, 101, 102, 103, 104, 105, 106, 107, 108, 109, 110, 111, 112, 113, 114, 115, 116, 117, 118, 119, 120, 121, 122, 48, 49, 50, 51, 52, 53, 54, 55, 56, 57, 43, 44]⟩ : ByteArray).extract k.val (k.val + 1) = strL [digit k.val] := by decide +kernel
  exact this ⟨k, hk⟩
theorem strL_append (a b : List UInt8) : strL a ++ strL b = strL (a ++ b) := by
  unfold strL
  rw [ByteArray.mk_append_mk]
theorem cat_any (a b : List UInt8) (ha : a.length + b.length ≤ 8000000) (w : World) : (Op.stringOp .add (strL a) (strL b)).run Tryd.prog w = .ok (.string (strL (a ++ b))) w := by
  unfold strL
  rw [run_string_add_sum w _ _ (by simp [ByteArray.size]; omega), ByteArray.mk_append_mk]

set_option maxHeartbeats 1000000 in
set_option maxRecDepth 100000 in
theorem rput_any (p : Nat) (W : Wr) (u : Nat) (hu : u < 65536) (w : World) (h : RAt w p W) (hg : W.Good) (hl : W.out.length + 3 ≤ 1000000) :
    Calls Tryd.prog 23 #[.pointer (some ⟨p, 0, none⟩), .int .u32 (u : Int)] w fun e w' => e = .returned (.tuple #[]) ∧ RAt w' p (putS W u) ∧ Below p w w' := by
  obtain ⟨c0, c1, c2, c3, x0, x1, x2, x3⟩ := h.at
  have H := Lib.hid h
  clear h
  have hacc : W.acc < 16 := by rcases hg.bits with h | h | h <;> omega
  have hbits : W.bits ≤ 4 := by rcases hg.bits with h | h | h <;> omega
  have hV : bits .or .u32 ((W.acc : Int) * 65536) (u : Int) = ((W.acc * 65536 + u : Nat) : Int) := by
    rw [← or16 W.acc u (by omega) hu]
    congr 1
    omega
  have hb : (W.bits : Int) + 16 = ((W.bits + 16 : Nat) : Int) := by omega
  have hVlt : W.acc * 65536 + u < 1048576 := by omega
  obtain ⟨V, hVe⟩ : ∃ V, V = W.acc * 65536 + u := ⟨_, rfl⟩
  obtain ⟨n, hn⟩ : ∃ n, n = W.bits + 16 := ⟨_, rfl⟩
  have hps : putS W u = { W with out := W.out ++ ems V 3 n, acc := V % 2 ^ (n % 6), bits := n % 6 } := by rw [hVe, hn]; rfl
  rw [hps]
  rw [← hVe] at hV hVlt
  rw [← hn] at hb
  have hn2 : n = 16 ∨ n = 18 ∨ n = 20 := by rcases hg.bits with h | h | h <;> omega
  clear hps hn hVe
  go_enter Tryd.func23, Tryd.ntmps23
  go_wp2
  go_region
  go_wp2
  clear hV hb c0 c1 c2 c3 x0 x1 x2 x3
  go_loopw [] (fun wr => ∃ (b f : Nat) (o : List UInt8), RAt wr p { W with out := o, acc := V, bits := b } ∧ Below p w wr ∧ o ++ ems V f b = W.out ++ ems V 3 n ∧ b ≤ 6 * f + 5 ∧ b % 6 = n % 6 ∧ o.length + f ≤ W.out.length + 3 ∧ b ≤ 20) (fun wr => (intOf ((wr.cell? ⟨p, 2, none⟩).getD undef)).toNat)
  case atStart =>
    exact ⟨n, 3, W.out, ((H.out.set1 V).set2 n).drew, (((Below.refl p w).setCell (p := ⟨p, 1, none⟩) (Nat.le_refl _) _).setCell (p := ⟨p, 2, none⟩) (Nat.le_refl _) _).drew, rfl, by omega, rfl, by omega, by omega⟩
  case round =>
    obtain ⟨b, f, o, hA, hF, he, hbf, hb6, hol, hb20⟩ := hrel
    obtain ⟨c0, c1, c2, c3, x0, x1, x2, x3⟩ := hA.at
    simp only at c1 c2
    by_cases hb : 6 ≤ b
    · obtain ⟨m, rfl⟩ : ∃ m, b = m + 6 := ⟨b - 6, by omega⟩
      have hbz : (6 : Int) ≤ ((m + 6 : Nat) : Int) := by omega
      have hw6 : ((m + 6 : Nat) : Int) - 6 = (m : Int) := by omega
      obtain ⟨k, hk⟩ : ∃ k, V / 2 ^ m % 64 = k := ⟨_, rfl⟩
      have hk64 : k < 64 := by omega
      have hk0 : (0 : Int) ≤ (k : Int) := by omega
      have hk1 : (k : Int) < 64 := by omega
      have hk2 : IntKind.u32.wrap ((k : Int) + 1) = (k : Int) + 1 := IntWalk.u32_in _ (by omega)
      have hk3 : (k : Int) + 1 ≤ 64 := by omega
      have hum : IntKind.u64.wrap (m : Int) = (m : Int) := IntWalk.u64_in _ (by omega)
      have hand : bits .and .u32 ((V : Int) / 2 ^ m) 63 = (k : Int) := by
        rw [← hk, ← and63 (V / 2 ^ m) (Nat.lt_of_le_of_lt (Nat.div_le_self _ _) (by omega))]
        congr 1
      have HK := Lib.hid hk
      clear hk
      have hcat : ∀ w : World, (Op.stringOp .add (strL o) ((⟨#[65, 66, 67, 68, 69, 70, 71, 72, 73, 74, 75, 76, 77, 78, 79, 80, 81, 82, 83, 84, 85, 86, 87, 88, 89, 90, 97, 98, 99, 100, 101, 102, 103, 104, 105, 106, 107, 108, 109, 110, 111, 112, 113, 114, 115, 116, 117, 118, 119, 120, 121, 122, 48, 49, 50, 51, 52, 53, 54, 55, 56, 57, 43, 44]⟩ : ByteArray).extract k (k + 1))).run Tryd.prog w = .ok (.string (strL (o ++ [digit k]))) w := fun w => by
        rw [dig_cut k hk64]
        exact cat_any o [digit k] (by simp; omega) w
      go_wp2
      have h2 := hA.set2 m
      have hF2 := hF.setCell (p := ⟨p, 2, none⟩) (Nat.le_refl _) (.int .i64 (m : Int))
      obtain ⟨d0, d1, d2, d3, y0, y1, y2, y3⟩ := h2.at
      simp only at d1 d2
      have H2 := Lib.hid h2
      have HF2 := Lib.hid hF2
      clear h2 hF2
      generalize wr.setCell ⟨p, 2, none⟩ (.int .i64 (m : Int)) = w2 at *
      go_region
      have h3 := H2.out.drew
      have hF3 := HF2.out.drew
      clear d0 d1 d2 d3 y0 y1 y2 y3 H2 HF2 c0 c1 c2 c3 x0 x1 x2 x3
      generalize w2.drew = w3 at *
      obtain ⟨d0, d1, d2, d3, y0, y1, y2, y3⟩ := h3.at
      simp only at d0 d1 d2
      have H2 := Lib.hid h3
      have HF2 := Lib.hid hF3
      clear h3 hF3
      go_wp2
      go_region
      have h4 := (H2.out.set0 (o ++ [digit k])).drew
      have hF4 := (HF2.out.setCell (p := ⟨p, 0, none⟩) (Nat.le_refl _) (.string (strL (o ++ [digit k])))).drew
      clear d0 d1 d2 d3 y0 y1 y2 y3 H2 HF2
      generalize (w3.setCell ⟨p, 0, none⟩ (.string (strL (o ++ [digit k])))).drew = w4 at *
      go_wp2
      go_roundw
      case rel =>
        obtain ⟨f', rfl⟩ : ∃ f', f = f' + 1 := ⟨f - 1, by omega⟩
        refine ⟨m, f', o ++ [digit k], h4, hF4, ?_, by omega, by omega, by simp; omega, by omega⟩
        rw [← he, ← HK.out]
        simp [ems]
      case measure =>
        have e4 := h4.at.2.2.1
        have c4 := hA.at.2.2.1
        simp only at e4 c4
        rw [e4, c4]
        simp [intOf]
        omega
    · have hbz : ¬ ((6 : Int) ≤ (b : Int)) := by omega
      have hb' : b = n % 6 := by omega
      have heo : o = W.out ++ ems V 3 n := by
        rw [← he]
        cases f with
        | zero => simp [ems]
        | succ f => simp [ems, hb]
      have HE := Lib.hid heo
      have HB := Lib.hid hb'
      have hsp := hA.set1 (V % 2 ^ (n % 6))
      have hlt32 : 2 ^ b < 4294967296 := by have := Nat.pow_lt_pow_right (a := 2) (by decide) (show b < 32 by omega); simpa using this
      have hone : 1 ≤ 2 ^ b := Nat.one_le_two_pow
      have e1 : (2 : Int) ^ b = ((2 ^ b : Nat) : Int) := by simp
      have hw1 : IntKind.u32.wrap ((2 : Int) ^ b) = (2 : Int) ^ b := IntWalk.u32_in _ (by rw [e1]; omega)
      have hw2 : IntKind.u32.wrap ((2 : Int) ^ b - 1) = (2 : Int) ^ b - 1 := IntWalk.u32_in _ (by rw [e1]; omega)
      have hub : IntKind.u64.wrap (b : Int) = (b : Int) := IntWalk.u64_in _ (by omega)
      have key : bits .and .u32 (V : Int) ((2 : Int) ^ b - 1) = ((V % 2 ^ (n % 6) : Nat) : Int) := by
        rw [show (2 : Int) ^ b - 1 = ((2 ^ b - 1 : Nat) : Int) by rw [e1]; omega, u32_and_nat V _ (by omega) (by omega), Nat.and_two_pow_sub_one_eq_mod, HB.out]
      obtain ⟨X, hX⟩ : ∃ X, V % 2 ^ (n % 6) = X := ⟨_, rfl⟩
      rw [hX] at key hsp
      have hF2 := hF.setCell (p := ⟨p, 1, none⟩) (Nat.le_refl _) (.int .u32 (X : Int))
      have HX := Lib.hid hX
      have HSP := Lib.hid hsp
      have HF2 := Lib.hid hF2
      clear hX hol hbf hb6 hg hl hacc hbits hb' hlt32 hone e1 heo he hF hF2 hsp hA
      go_wp2
      go_region
      go_wp2
      go_end0
      have k := HSP.out.drew
      rw [HE.out, HB.out] at k
      rw [HX.out]
      exact ⟨rfl, k, HF2.out.drew⟩
end Go.Proofs.YtcddppgnmephnaaDoor
