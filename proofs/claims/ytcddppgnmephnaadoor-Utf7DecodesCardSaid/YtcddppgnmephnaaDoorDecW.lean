/-
  Utf7Decodes: the walk.
-/
import Derived.Test.YtcddppgnmephnaaDoorRDec
namespace Go.Proofs.YtcddppgnmephnaaDoor
set_option linter.unusedVariables false
open Go.RowKit Go.Lib

theorem decV_any (l : List UInt8) : ∃ x c, decV l = .tuple #[.string x, .int .i64 c] := by
  unfold decV
  split
  · exact ⟨_, _, rfl⟩
  · exact ⟨_, _, rfl⟩

set_option maxHeartbeats 400000 in
set_option maxRecDepth 100000 in
theorem decodes_any (s : ByteArray) (w : World) (hT : Tabs w) : Calls Tryd.prog 4 #[.string s] w fun e w' => e = .returned (.bool true) ∧ Below w.heap.size w w' := by
  have hcut := cut_any s w
  have hcs := cutS_size s
  obtain ⟨t, ht⟩ : ∃ t, cutS s = t := ⟨_, rfl⟩
  rw [ht] at hcut hcs
  clear ht
  have hl : t.data.toList.length ≤ 20000 := by rw [← Lib.size_eq]; omega
  have h1 : ∀ w, Tabs w → Calls Tryd.prog 13 #[.string t] w fun e w' => e = .returned (decV t.data.toList) ∧ Below w.heap.size w w' := fun w hT => dec_any t.data.toList hl w hT
  have h2 : ∀ w, Tabs w → Calls Tryd.prog 14 #[.string t] w fun e w' => e = .returned (decV t.data.toList) ∧ Below w.heap.size w w' := fun w hT => rdec_any t.data.toList hl w hT
  have h3 := fun w hT => awake_any w hT
  have HT := Lib.hid hT
  obtain ⟨x, c, hx⟩ := decV_any t.data.toList
  rw [hx] at h1 h2
  have H1 := Lib.hid h1
  have H2 := Lib.hid h2
  have H3 := Lib.hid h3
  clear hT h1 h2 h3 hx hcs hl
  go_enter Tryd.func4, Tryd.ntmps4
  go_wp2_with (first
    | (go_at_call 9; refine hcut.mono ?_; rintro e w0 ⟨rfl, rfl⟩)
    | (go_at_call 13; refine (H1.out _ HT.out).mono ?_; rintro e w1 ⟨rfl, hb1⟩; have HB1 := Lib.hid hb1; have hs1 := hb1.size; have HT1 := Lib.hid (HT.out.below hb1 HT.out.size); clear hb1)
    | (go_at_call 14; refine (H2.out _ HT1.out).mono ?_; rintro e w2 ⟨rfl, hb2⟩; have HB2 := Lib.hid (HB1.out.trans (hb2.mono hs1)); have hs2 := hb2.size; have HT2 := Lib.hid (HT1.out.below hb2 HT1.out.size); clear hb2)
    | (go_at_call 12; refine (H3.out _ HT2.out).mono ?_; rintro e w3 ⟨rfl, hb3⟩; have HB3 := Lib.hid (HB2.out.trans (hb3.mono (by omega))); clear hb3))
  all_goals (go_ret; exact ⟨rfl, HB3.out⟩)
end Go.Proofs.YtcddppgnmephnaaDoor
