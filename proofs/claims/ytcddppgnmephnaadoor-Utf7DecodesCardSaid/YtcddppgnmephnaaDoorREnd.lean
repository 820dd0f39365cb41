/-
  The reference's end.
-/
import Derived.Test.YtcddppgnmephnaaDoorRPut
namespace Go.Proofs.YtcddppgnmephnaaDoor
set_option linter.unusedVariables false
open Go.RowKit Go.Lib

set_option maxHeartbeats 1000000 in
set_option maxRecDepth 100000 in
theorem rend_any (p : Nat) (W : Wr) (w : World) (h : RAt w p W) (hg : W.Good) (hl : W.out.length + 3 ≤ 1000000) :
    Calls Tryd.prog 22 #[.pointer (some ⟨p, 0, none⟩)] w fun e w' => e = .returned (.tuple #[]) ∧ RAt w' p (endS W) ∧ Below p w w' := by
  obtain ⟨o, acc, bs, inn⟩ := W
  obtain ⟨c0, c1, c2, c3, x0, x1, x2, x3⟩ := h.at
  have H := Lib.hid h
  simp only at c0 c1 c2 c3 hl
  clear h
  have hcat0 : ∀ l : List UInt8, l.length ≤ 2000000 → ∀ w : World, (Op.stringOp .add (strL l) ⟨#[45]⟩).run Tryd.prog w = .ok (.string (strL (l ++ [45]))) w := fun l hl w => cat_any l [45] (by simp; omega) w
  cases inn with
  | false =>
    go_enter Tryd.func22, Tryd.ntmps22
    go_wp2
    exact bodyPost_ret (v := .tuple #[]) (by simp [results, Tryd.results22, go_sem]) rfl ⟨rfl, H.out, Below.refl p w⟩
  | true =>
    have hb := hg.bits
    simp only at hb
    by_cases h0 : bs = 0
    · subst h0
      have hcat2 := hcat0 o (by omega)
      go_enter Tryd.func22, Tryd.ntmps22
      go_wp2
      go_end0
      refine ⟨rfl, ?_, (((((Below.refl p w).setCell (p := ⟨p, 0, none⟩) (Nat.le_refl _) _).setCell (p := ⟨p, 1, none⟩) (Nat.le_refl _) _).setCell (p := ⟨p, 2, none⟩) (Nat.le_refl _) _).setCell (p := ⟨p, 3, none⟩) (Nat.le_refl _) _)⟩
      have k := (((H.out.set0 (o ++ [45])).set1 0).set2 0).set3 false
      simpa [endS] using k
    · obtain ⟨k, hk⟩ : ∃ k, acc * 2 ^ (6 - bs) % 64 = k := ⟨_, rfl⟩
      have hk64 : k < 64 := by omega
      have hk0 : (0 : Int) ≤ (k : Int) := by omega
      have hk1 : (k : Int) < 64 := by omega
      have hk2 : IntKind.u32.wrap ((k : Int) + 1) = (k : Int) + 1 := IntWalk.u32_in _ (by omega)
      have hk3 : (k : Int) + 1 ≤ 64 := by omega
      have hend : endS ⟨o, acc, bs, true⟩ = ⟨o ++ [digit k] ++ [45], 0, 0, false⟩ := by simp [endS, hk, show 0 < bs by omega]
      rw [hend]
      clear hend
      have hbz : (0 : Int) < (bs : Int) := by omega
      have hcase : (bs = 2 ∧ acc < 4) ∨ (bs = 4 ∧ acc < 16) := by omega
      have HK := Lib.hid hk
      clear hk hb hg
      have hand : bits .and .u32 ((acc : Int) * (2 : Int) ^ (6 - bs)) 63 = (k : Int) := by
        have hlt : acc * 2 ^ (6 - bs) < 4294967296 := by rcases hcase with ⟨rfl, _⟩ | ⟨rfl, _⟩ <;> simp <;> omega
        rw [show (acc : Int) * (2 : Int) ^ (6 - bs) = ((acc * 2 ^ (6 - bs) : Nat) : Int) by simp, and63 _ hlt, HK.out]
      have hw4 : IntKind.i64.wrap 4 = 4 := by decide
      have hw2 : IntKind.i64.wrap 2 = 2 := by decide
      have hv4 : IntKind.u64.wrap 4 = 4 := by decide
      have hv2 : IntKind.u64.wrap 2 = 2 := by decide
      have hcat : ∀ w : World, (Op.stringOp .add (strL o) ((⟨#[65, 66, 67, 68, 69, 70, 71, 72, 73, 74, 75, 76, 77, 78, 79, 80, 81, 82, 83, 84, 85, 86, 87, 88, 89, 90, 97, 98, 99, 100, 101, 102, 103, 104, 105, 106, 107, 108, 109, 110, 111, 112, 113, 114, 115, 116, 117, 118, 119, 120, 121, 122, 48, 49, 50, 51, 52, 53, 54, 55, 56, 57, 43, 44]⟩ : ByteArray).extract k (k + 1))).run Tryd.prog w = .ok (.string (strL (o ++ [digit k]))) w := fun w => by
        rw [dig_cut k hk64]
        exact cat_any o [digit k] (by simp; omega) w
      rcases hcase with ⟨rfl, hacc⟩ | ⟨rfl, hacc⟩
      · have hand2 : bits .and .u32 ((acc : Int) * 16) 63 = (k : Int) := hand
        have hwr : IntKind.u32.wrap ((acc : Int) * 16) = (acc : Int) * 16 := IntWalk.u32_in _ (by omega)
        clear hand
        go_enter Tryd.func22, Tryd.ntmps22
        go_wp2
        go_region
        have h3 := H.out.drew
        clear c0 c1 c2 c3 x0 x1 x2 x3
        have hB3 : Below p w w.drew := (Below.refl p w).drew
        generalize w.drew = w3 at *
        obtain ⟨d0, d1, d2, d3, y0, y1, y2, y3⟩ := h3.at
        simp only at d0 d1 d2
        have H3 := Lib.hid h3
        have HB3 := Lib.hid hB3
        clear h3 hB3 H
        go_wp2
        go_region
        have h4 := (H3.out.set0 (o ++ [digit k])).drew
        have hF4 := (HB3.out.setCell (p := ⟨p, 0, none⟩) (Nat.le_refl _) (.string (strL (o ++ [digit k])))).drew
        clear d0 d1 d2 d3 y0 y1 y2 y3 H3 HB3
        generalize (w3.setCell ⟨p, 0, none⟩ (.string (strL (o ++ [digit k])))).drew = w4 at *
        obtain ⟨d0, d1, d2, d3, y0, y1, y2, y3⟩ := h4.at
        simp only at d0 d1 d2
        have H4 := Lib.hid h4
        have HF4 := Lib.hid hF4
        clear h4 hF4 hcat
        have hcat2 := hcat0 (o ++ [digit k]) (by simp; omega)
        go_wp2
        go_end0
        exact ⟨rfl, ((((H4.out.set0 _).set1 0).set2 0).set3 false), ((((HF4.out.setCell (p := ⟨p, 0, none⟩) (Nat.le_refl _) _).setCell (p := ⟨p, 1, none⟩) (Nat.le_refl _) _).setCell (p := ⟨p, 2, none⟩) (Nat.le_refl _) _).setCell (p := ⟨p, 3, none⟩) (Nat.le_refl _) _)⟩
      · have hand2 : bits .and .u32 ((acc : Int) * 4) 63 = (k : Int) := hand
        have hwr : IntKind.u32.wrap ((acc : Int) * 4) = (acc : Int) * 4 := IntWalk.u32_in _ (by omega)
        clear hand
        go_enter Tryd.func22, Tryd.ntmps22
        go_wp2
        go_region
        have h3 := H.out.drew
        clear c0 c1 c2 c3 x0 x1 x2 x3
        have hB3 : Below p w w.drew := (Below.refl p w).drew
        generalize w.drew = w3 at *
        obtain ⟨d0, d1, d2, d3, y0, y1, y2, y3⟩ := h3.at
        simp only at d0 d1 d2
        have H3 := Lib.hid h3
        have HB3 := Lib.hid hB3
        clear h3 hB3 H
        go_wp2
        go_region
        have h4 := (H3.out.set0 (o ++ [digit k])).drew
        have hF4 := (HB3.out.setCell (p := ⟨p, 0, none⟩) (Nat.le_refl _) (.string (strL (o ++ [digit k])))).drew
        clear d0 d1 d2 d3 y0 y1 y2 y3 H3 HB3
        generalize (w3.setCell ⟨p, 0, none⟩ (.string (strL (o ++ [digit k])))).drew = w4 at *
        obtain ⟨d0, d1, d2, d3, y0, y1, y2, y3⟩ := h4.at
        simp only at d0 d1 d2
        have H4 := Lib.hid h4
        have HF4 := Lib.hid hF4
        clear h4 hF4 hcat
        have hcat2 := hcat0 (o ++ [digit k]) (by simp; omega)
        go_wp2
        go_end0
        exact ⟨rfl, ((((H4.out.set0 _).set1 0).set2 0).set3 false), ((((HF4.out.setCell (p := ⟨p, 0, none⟩) (Nat.le_refl _) _).setCell (p := ⟨p, 1, none⟩) (Nat.le_refl _) _).setCell (p := ⟨p, 2, none⟩) (Nat.le_refl _) _).setCell (p := ⟨p, 3, none⟩) (Nat.le_refl _) _)⟩
end Go.Proofs.YtcddppgnmephnaaDoor
