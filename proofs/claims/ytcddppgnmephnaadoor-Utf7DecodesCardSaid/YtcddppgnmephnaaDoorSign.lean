/-
  The program's sign.
-/
import Derived.Test.YtcddppgnmephnaaDoorEnd
namespace Go.Proofs.YtcddppgnmephnaaDoor
set_option linter.unusedVariables false
open Go.RowKit Go.Lib

set_option maxHeartbeats 1000000 in
set_option maxRecDepth 100000 in
theorem sign_any (p B : Nat) (W : Wr) (r : Nat) (hr : r ≤ 1114111) (w : World) (h : WrAt w p B W) (hg : W.Good) (hl : W.out.length + 9 ≤ 1000000) :
    Calls Tryd.prog 18 #[.pointer (some ⟨p, 0, none⟩), .int .i32 (r : Int)] w fun e w' => e = .returned (.tuple #[]) ∧ WrAt w' p B (signS W r) ∧ Fr B p w w' := by
  have hpl := plain_any r hr w
  have H := Lib.hid h
  cases hp : plainR r with
  | false =>
    rw [hp] at hpl
    have hs : signS W r = farS W r := by simp [signS, hp]
    rw [hs]
    have hf := far_any p B W r hr w h hg hl
    clear h hs hp
    go_enter Tryd.func18, Tryd.ntmps18
    go_wp2_with (first
      | (go_at_call 30; refine hpl.mono ?_; rintro e w2 ⟨rfl, rfl⟩)
      | (go_at_call 31; refine hf.mono ?_; rintro e w2 ⟨rfl, h2, hf2⟩))
    exact bodyPost_ret (v := .tuple #[]) (by simp [results, Tryd.results18, go_sem]) rfl ⟨rfl, h2, hf2⟩
  | true =>
    rw [hp] at hpl
    have h127 : r ≤ 126 := by simp [plainR] at hp; omega
    obtain ⟨g1, g2, g3⟩ := endS_good hg
    have he := end_any p B W w h hg (by omega)
    obtain ⟨E, hE⟩ : ∃ E, endS W = E := ⟨_, rfl⟩
    rw [hE] at he g1 g2 g3
    by_cases h38 : r = 38
    · subst h38
      have hs : signS W 38 = { E with out := (E.out ++ [(38 : Nat).toUInt8]) ++ [45] } := by rw [← hE]; simp [signS, hp]
      rw [hs]
      clear h hs hp hE
      go_enter Tryd.func18, Tryd.ntmps18
      go_wp2_with (first
        | (go_at_call 30; refine hpl.mono ?_; rintro e w2 ⟨rfl, rfl⟩)
        | (go_at_call 19; refine he.mono ?_; rintro e w2 ⟨rfl, h2, hf2⟩; have H2 := Lib.hid h2; have HF2 := Lib.hid hf2; clear h2 hf2)
        | (go_at_call 32; refine (wr_any p B E 38 (by omega) _ H2.out (by omega)).mono ?_; rintro e w3 ⟨⟨x, rfl⟩, h3, hf3⟩; have H3 := Lib.hid h3; have HF3 := Lib.hid hf3; clear h3 hf3)
        | (go_at_call 33; refine (wb_any p B _ 45 _ _ H3.out (by simp; omega) (by rfl)).mono ?_; rintro e w4 ⟨rfl, h4, hf4⟩))
      go_end0
      exact ⟨rfl, h4, HF2.out.trans (HF3.out.trans hf4)⟩
    · have hz : ¬ ((r : Int) = 38) := by omega
      have hs : signS W r = { E with out := E.out ++ [r.toUInt8] } := by rw [← hE]; simp [signS, hp, h38]
      rw [hs]
      clear h hs hp hE
      go_enter Tryd.func18, Tryd.ntmps18
      go_wp2_with (first
        | (go_at_call 30; refine hpl.mono ?_; rintro e w2 ⟨rfl, rfl⟩)
        | (go_at_call 19; refine he.mono ?_; rintro e w2 ⟨rfl, h2, hf2⟩; have H2 := Lib.hid h2; have HF2 := Lib.hid hf2; clear h2 hf2)
        | (go_at_call 32; refine (wr_any p B E r (by omega) _ H2.out (by omega)).mono ?_; rintro e w3 ⟨⟨x, rfl⟩, h3, hf3⟩))
      go_end0
      exact ⟨rfl, h3, HF2.out.trans hf3⟩
end Go.Proofs.YtcddppgnmephnaaDoor
