/-
  numbers: a text that is no number is enough to refuse them.
-/
import Derived.Test.YthcgdbmcpnmeeaaNumbers
namespace Go.Proofs.Ythcgdbmcpnmeeaa
set_option linter.unusedVariables false
open Go.RowKit

set_option maxHeartbeats 1000000 in
theorem numbers_no (b n : Nat) (ss : List ByteArray) (w : World) (hn : n = ss.length) (hl : ss.length ≤ 100) (hb : b < w.heap.size) (hc : StrsAt w b ss) (h4 : ∀ s ∈ ss, s.size ≤ 4) (hd : ss.all digS = false) :
    Calls Try.prog 15 #[.slice (some ⟨b, 0, none⟩) n n] w fun e w' => e = .returned (.tuple #[.slice none 0 0, .bool false]) ∧ Below w.heap.size w w' := by
  subst hn
  have HD := Lib.hid hd
  have H4 := Lib.hid h4
  have HC := Lib.hid hc
  clear hd h4 hc
  go_enter Try.func15, Try.ntmps15
  go_wp2_with fail
  go_loopw [4, 11] (fun o i wr => ∃ k : Nat, k ≤ ss.length ∧ i = .int .i64 k ∧ OwnI wr w.heap.size o ((ss.map valS).take k) ∧ (ss.take k).all digS = true ∧ Below w.heap.size w wr) (fun _ i _ => ss.length - (intOf i).toNat)
  case atStart => exact ⟨0, Nat.zero_le _, rfl, ⟨by simp, .inl ⟨rfl, rfl⟩⟩, rfl, Below.refl _ _⟩
  case round =>
    obtain ⟨k, hk, rfl, hown, hall, hbel⟩ := hrel
    have HA := Lib.hid hall
    clear hall
    have hsz := hbel.size
    by_cases hlt : k < ss.length
    · have c0 := HC.out.below hbel hb k hlt
      have hm : ss[k] ∈ ss := List.getElem_mem _
      have HL := Lib.hid (take_snocL ss k hlt)
      by_cases hg : digS ss[k] = true
      · have N := number_yes ss[k] wr (H4.out _ hm) hg
        have HG := Lib.hid hg
        have HT : Hid ((ss.map valS).take (k + 1) = (ss.map valS).take k ++ [valL ss[k].data.toList]) := by
          have := take_snocL (ss.map valS) k (by simpa using hlt)
          rw [List.getElem_map] at this
          exact this
        have hln : ((ss.map valS).take k).length + 1 ≤ 1000000 := by simp; omega
        clear hm hg
        go_wp2_with fail
        refine N.mono ?_
        rintro e w1 ⟨rfl, rfl⟩
        go_wp2_with (at_builtin; go_loud (refine appI rfl (.tmp 22) (.tmp 24) rfl hown hbel hsz rfl rfl hln ?_))
        intro o' w2 ho' hb2
        go_wp2_with fail
        go_roundw
        case rel => exact ⟨k + 1, by omega, by go_num, by rw [HT.out]; exact ho', by rw [HL.out, List.all_append, HA.out]; simp [HG.out], hb2⟩
        case measure => simp [intOf]; omega
      · have N := number_no ss[k] wr (H4.out _ hm) (by simpa [digS] using hg)
        clear hm hg
        go_wp2_with fail
        refine N.mono ?_
        rintro e w1 ⟨rfl, rfl⟩
        go_wp2_with fail
        exact bodyPost_ret (v := .tuple #[.slice none 0 0, .bool false]) (by simp [results, Try.results15, go_sem]) rfl ⟨rfl, hbel⟩
    · exfalso
      have h1 := HA.out
      rw [List.take_of_length_le (by omega), HD.out] at h1
      cases h1
end Go.Proofs.Ythcgdbmcpnmeeaa
