/-
  The reference's Uids.
-/
import Derived.Test.YtligplnmgoailaaViewA
namespace Go.Proofs.Ytligplnmgoailaa
set_option linter.unusedVariables false
open Go.RowKit
set_option maxHeartbeats 1000000 in
theorem ruidsT_any (bx : ByteArray) (vl : Int) (rd : Bool) (vs v f : Value) (s : List (Int × Int)) (l : List Int) (w : World) (hs : RowR w vs s) (hr : RowN w v l) (hls : s.length ≤ 1000) (hlen : l.length ≤ 1000) :
    Calls Try.prog 18 #[.agg (sightV bx vl rd v f), vs, .bool true] w fun e w' => ∃ o, e = .returned o ∧ OwnN w' w.heap.size o (pickL s l) ∧ Below w.heap.size w w' := by
  have HR := Lib.hid hr
  have HS := Lib.hid hs
  clear hr hs
  unfold sightV
  go_enter Try.func18, Try.ntmps18
  go_wp2_with fail
  have hb0 := (Below.refl w.heap.size w).alloc (Nat.le_refl _) (.cells #[.string bx, .int .u32 vl, .bool rd, v, f] 29)
  refine (rpick_any vs v s l _ (HS.out.below hb0) (HR.out.below hb0) hls hlen).mono ?_
  rintro e w1 ⟨o, rfl, ho, hb⟩
  have HO : Hid (OwnN w1 w.heap.size o (pickL s l)) := Lib.hid (by
    refine ⟨ho.1, ?_⟩
    rcases ho.2 with h2 | ⟨g, cap, cur, rfl, hg, hh, r⟩
    · exact .inl h2
    · exact .inr ⟨g, cap, cur, rfl, by simp at hg; omega, hh, r⟩)
  have HB := Lib.hid (hb0.trans (hb.mono (by simp)))
  clear ho hb hb0
  go_wp2_with fail
  go_ret
  exact ⟨_, rfl, HO.out, HB.out⟩

set_option maxHeartbeats 2000000 in
theorem ruidsF_any (bx : ByteArray) (vl : Int) (rd : Bool) (vs v f : Value) (s : List (Int × Int)) (l : List Int) (w : World) (hs : RowR w vs s) (hr : RowN w v l) (hls : s.length ≤ 1000) (hlen : l.length ≤ 1000) :
    Calls Try.prog 18 #[.agg (sightV bx vl rd v f), vs, .bool false] w fun e w' => ∃ o, e = .returned o ∧ OwnN w' w.heap.size o (numK s l l.length) ∧ Below w.heap.size w w' := by
  have HR := Lib.hid hr
  have HS := Lib.hid hs
  obtain ⟨b, off, a, cap, rfl, hc, hm, ha, hcell⟩ := hr.shape
  have Ha := Lib.hid ha
  have Hc := Lib.hid hcell
  clear ha hcell hr hs
  unfold sightV
  go_enter Try.func18, Try.ntmps18
  go_wp2_with fail
  have HZ : Hid ((w.alloc (.cells #[.string bx, .int .u32 vl, .bool rd, .slice a l.length cap, f] 29)).heap[w.heap.size]? = some (.cells #[.string bx, .int .u32 vl, .bool rd, .slice a l.length cap, f] 29 (0, 0))) := Lib.hid (heap_alloc_new w _)
  have HB0 := Lib.hid ((Below.refl w.heap.size w).alloc (Nat.le_refl _) (.cells #[.string bx, .int .u32 vl, .bool rd, .slice a l.length cap, f] 29))
  have hw0 : (w.alloc (.cells #[.string bx, .int .u32 vl, .bool rd, .slice a l.length cap, f] 29)).heap.size = w.heap.size + 1 := by simp
  generalize w.alloc (.cells #[.string bx, .int .u32 vl, .bool rd, .slice a l.length cap, f] 29) = w0 at *
  have hwl : w.heap.size < w0.heap.size := by omega
  clear hw0
  go_loopw [7, 8] (fun o i wr => ∃ k : Nat, k ≤ l.length ∧ i = .int .i64 k ∧ OwnN wr w0.heap.size o (numK s l k) ∧ Below w0.heap.size w0 wr) (fun _ i _ => l.length - (intOf i).toNat)
  case atStart => exact ⟨0, by omega, rfl, owns_nil _ _ _ _, Below.refl _ _⟩
  case round =>
    obtain ⟨k, hk, rfl, hown, hb⟩ := hrel
    by_cases hlt : k < l.length
    · obtain ⟨rfl, hbl⟩ := Ha.out (by omega)
      have hq : wr.cell? ⟨b, off + k, none⟩ = some (.int .u32 l[k]) := ((hb.cell (p := ⟨b, off + k, none⟩) (by show b < _; omega)).trans (HB0.out.cell (p := ⟨b, off + k, none⟩) hbl)).trans (Hc.out k hlt)
      have hd3 : wr.cell? ⟨w.heap.size, 3, none⟩ = some (.slice (some ⟨b, off, none⟩) l.length cap) := (hb.cell (p := ⟨w.heap.size, 3, none⟩) hwl).trans (cell_of_row _ _ 3 _ _ _ HZ.out)
      have hS := Lib.hid (HS.out.below (HB0.out.trans (hb.mono (Nat.le_of_lt hwl))))
      have hB := hb.size
      have hL := numK_len s l k
      have e1 : IntKind.u32.wrap ((k : Int) + 1) = (k : Int) + 1 := IntWalk.u32_in _ (by omega)
      have e2 : IntKind.u32.wrap (l.length : Int) = (l.length : Int) := IntWalk.u32_in _ (by omega)
      cases hh : hasB s ((k : Int) + 1) l.length
      · have HN := Lib.hid (numK_no hh)
        have HH := Lib.hid hh
        clear hh
        generalize l[k] = x at *
        go_wp2_with fail
        refine (rhas_any _ s ((k : Int) + 1) l.length _ hS.out (by omega) (by omega) (by omega) (by omega) (by omega)).mono ?_
        rintro e w1 ⟨rfl, hb1⟩
        rw [HH.out]
        have hown1 := owns_keep hown hb1 (owns_lt hown)
        have HB1 := Lib.hid (hb.trans (hb1.mono hB))
        have HO := Lib.hid hown1
        clear hown hb1 hown1
        go_wp2_with fail
        go_roundw
        case rel => exact ⟨k + 1, by omega, by go_num, by rw [HN.out]; exact HO.out, HB1.out⟩
        case measure => simp [intOf]; omega
      · have HN := Lib.hid (numK_yes hlt hh)
        have HH := Lib.hid hh
        clear hh
        generalize l[k] = x at *
        go_wp2_with fail
        refine (rhas_any _ s ((k : Int) + 1) l.length _ hS.out (by omega) (by omega) (by omega) (by omega) (by omega)).mono ?_
        rintro e w1 ⟨rfl, hb1⟩
        rw [HH.out]
        have hown1 : OwnN w1 w0.heap.size _ (numK s l k) := owns_keep hown hb1 (owns_lt hown)
        have HB1 := Lib.hid (hb.trans (hb1.mono hB))
        have hs1 := hb1.size
        have hq1 : w1.cell? ⟨b, off + k, none⟩ = some (.int .u32 x) := (hb1.cell (p := ⟨b, off + k, none⟩) (World.block_lt_of_cell? wr _ hq)).trans hq
        have hd31 : w1.cell? ⟨w.heap.size, 3, none⟩ = some (.slice (some ⟨b, off, none⟩) l.length cap) := (hb1.cell (p := ⟨w.heap.size, 3, none⟩) (World.block_lt_of_cell? wr _ hd3)).trans hd3
        clear hb1 hq hd3
        go_wp2_with (at_builtin; go_loud (refine appN rfl (.tmp 30) (.tmp 36) rfl hown1 HB1.out (by omega) rfl rfl (by omega) ?_); intro o' w2 hown2 hb2)
        go_roundw
        case rel => exact ⟨k + 1, by omega, by go_num, by rw [HN.out]; exact hown2, hb2⟩
        case measure => simp [intOf]; omega
    · have hkl : k = l.length := by omega
      subst hkl
      have hd3 : wr.cell? ⟨w.heap.size, 3, none⟩ = some (.slice a l.length cap) := (hb.cell (p := ⟨w.heap.size, 3, none⟩) hwl).trans (cell_of_row _ _ 3 _ _ _ HZ.out)
      have HO : Hid (OwnN wr w.heap.size _ (numK s l l.length)) := Lib.hid (by
        refine ⟨hown.1, ?_⟩
        rcases hown.2 with h2 | ⟨g, cap, cur, rfl, hg, hh, r⟩
        · exact .inl h2
        · exact .inr ⟨g, cap, cur, rfl, by omega, hh, r⟩)
      go_wp2_with fail
      go_ret
      exact ⟨_, rfl, HO.out, HB0.out.trans (hb.mono (by omega))⟩
end Go.Proofs.Ytligplnmgoailaa
