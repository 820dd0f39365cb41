/-
  The contract of numbers.
-/
import Derived.Test.YtacalpgiopgkkaaDoorS8OwnI
namespace Go.Proofs.YtacalpgiopgkkaaDoor
namespace S8
set_option linter.unusedVariables false
open Go.RowKit

/-- the cells of a row of texts -/
def StrsAt (w : World) (b : Nat) (ss : List ByteArray) : Prop := ∀ j (h : j < ss.length), w.cell? ⟨b, j, none⟩ = some (.string ss[j])
theorem StrsAt.below {w w' : World} {b S : Nat} {ss : List ByteArray} (k : StrsAt w b ss) (hb : Below S w w') (hS : b < S) : StrsAt w' b ss := fun j h => (hb.cell (p := ⟨b, j, none⟩) hS).trans (k j h)

def valS (s : ByteArray) : Int := valL s.data.toList
def digS (s : ByteArray) : Bool := s.data.toList.all digB
theorem take_snocL {α : Type} (l : List α) (k : Nat) (h : k < l.length) : l.take (k + 1) = l.take k ++ [l[k]] := List.take_succ_eq_append_getElem h

set_option maxHeartbeats 1000000 in
theorem numbers_yes (b n : Nat) (ss : List ByteArray) (w : World) (hn : n = ss.length) (hl : ss.length ≤ 100) (hb : b < w.heap.size) (hc : StrsAt w b ss) (h4 : ∀ s ∈ ss, s.size ≤ 4) (hd : ∀ s ∈ ss, digS s = true) :
    Calls Tryd.prog 41 #[.slice (some ⟨b, 0, none⟩) n n] w fun e w' => ∃ o, e = .returned (.tuple #[o, .bool true]) ∧ OwnI w' w.heap.size o (ss.map valS) ∧ Below w.heap.size w w' := by
  subst hn
  have HD := Lib.hid hd
  have H4 := Lib.hid h4
  have HC := Lib.hid hc
  clear hd h4 hc
  go_enter Tryd.func41, Tryd.ntmps41
  go_wp2_with fail
  go_loopw [4, 11] (fun o i wr => ∃ k : Nat, k ≤ ss.length ∧ i = .int .i64 k ∧ OwnI wr w.heap.size o ((ss.map valS).take k) ∧ Below w.heap.size w wr) (fun _ i _ => ss.length - (intOf i).toNat)
  case atStart => exact ⟨0, Nat.zero_le _, rfl, ⟨by simp, .inl ⟨rfl, rfl⟩⟩, Below.refl _ _⟩
  case round =>
    obtain ⟨k, hk, rfl, hown, hbel⟩ := hrel
    have hsz := hbel.size
    by_cases hlt : k < ss.length
    · have c0 := HC.out.below hbel hb k hlt
      have hm : ss[k] ∈ ss := List.getElem_mem _
      have N := number_yes ss[k] wr (H4.out _ hm) (HD.out _ hm)
      have HT : Hid ((ss.map valS).take (k + 1) = (ss.map valS).take k ++ [valL ss[k].data.toList]) := by
        have := take_snocL (ss.map valS) k (by simpa using hlt)
        rw [List.getElem_map] at this
        exact this
      have hln : ((ss.map valS).take k).length + 1 ≤ 1000000 := by simp; omega
      clear hm
      go_wp2_with fail
      refine N.mono ?_
      rintro e w1 ⟨rfl, rfl⟩
      go_wp2_with (at_builtin; go_loud (refine appI rfl (.tmp 22) (.tmp 24) rfl hown hbel hsz rfl rfl hln ?_))
      intro o' w2 ho' hb2
      go_wp2_with fail
      go_roundw
      case rel => exact ⟨k + 1, by omega, by go_num, by rw [HT.out]; exact ho', hb2⟩
      case measure => simp [intOf]; omega
    · have he : (ss.map valS).take k = ss.map valS := List.take_of_length_le (by simp; omega)
      go_wp2_with fail
      rw [he] at hown
      exact bodyPost_ret (v := .tuple #[_, .bool true]) (by simp [results, Tryd.results41, go_sem]) rfl ⟨_, rfl, hown, hbel⟩
end S8
end Go.Proofs.YtacalpgiopgkkaaDoor
