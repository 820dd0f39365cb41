/-
  The program's Right, of any sight.
-/
import Derived.Test.YtligplnmgoailaaViewAwake
namespace Go.Proofs.Ytligplnmgoailaa
set_option linter.unusedVariables false
open Go.RowKit

set_option maxRecDepth 8000 in
set_option maxHeartbeats 2000000 in
theorem pright_any (bx : ByteArray) (vl : Int) (rd : Bool) (v : Value) (fa : Option Addr) (fn fc : Nat) (l : List Int) (w : World) (hr : RowN w v l) (hlen : l.length ≤ 9223372036854775807) :
    Calls Try.prog 11 #[.agg (sightV bx vl rd v (.slice fa fn fc))] w fun e w' => RightIs l fn e ∧ Below w.heap.size w w' := by
  have HBD := Lib.hid hr.2
  obtain ⟨b, off, a, cap, rfl, hc, hm, ha, hcell⟩ := hr.shape
  have HA := Lib.hid ha
  have HC := Lib.hid hcell
  clear ha hcell hr
  unfold sightV
  go_enter Try.func11, Try.ntmps11
  go_wp2_with fail
  have HB0 := Lib.hid ((Below.refl w.heap.size w).alloc (Nat.le_refl _) (.cells #[.string bx, .int .u32 vl, .bool rd, .slice a l.length cap, .slice fa fn fc] 29))
  have HZ0 : Hid ((w.alloc (.cells #[.string bx, .int .u32 vl, .bool rd, .slice a l.length cap, .slice fa fn fc] 29)).heap[w.heap.size]? = some (.cells #[.string bx, .int .u32 vl, .bool rd, .slice a l.length cap, .slice fa fn fc] 29 (0, 0))) := Lib.hid (heap_alloc_new w _)
  generalize w.alloc (.cells #[.string bx, .int .u32 vl, .bool rd, .slice a l.length cap, .slice fa fn fc] 29) = w0 at *
  go_loopw [3, 9] (fun pv iv wr => wr = w0 ∧ ∃ (k : Nat) (p : Int), k ≤ l.length ∧ iv = .int .i64 k ∧ pv = .int .u32 p ∧ UpK l k ∧ ((k = 0 ∧ p = 0) ∨ ∃ h : k - 1 < l.length, 0 < k ∧ p = l[k - 1])) (fun _ iv _ => l.length - (intOf iv).toNat)
  case atStart => exact ⟨rfl, 0, 0, by omega, rfl, rfl, UpK.zero l, .inl ⟨rfl, rfl⟩⟩
  case round =>
    obtain ⟨rfl, k, p, hk, rfl, rfl, hup, hp⟩ := hrel
    have HU := Lib.hid hup
    have hp0 : 0 ≤ p := by
      rcases hp with ⟨_, rfl⟩ | ⟨h, _, rfl⟩
      · exact Int.le_refl _
      · exact (HBD.out _ (List.getElem_mem h)).1
    have HP := Lib.hid hp
    clear hup hp
    by_cases hlt : k < l.length
    · have hii : (k : Int) < (l.length : Int) := by omega
      obtain ⟨rfl, hbl⟩ := HA.out (by omega)
      have hq : wr.cell? ⟨b, off + k, none⟩ = some (.int .u32 l[k]) := (HB0.out.cell (p := ⟨b, off + k, none⟩) hbl).trans (HC.out k hlt)
      by_cases hle : l[k] ≤ p
      · have hd : decide (l[k] ≤ p) = true := decide_eq_true hle
        have HN : Hid (¬ Up l) := Lib.hid (fun u => by
          have h0 := (HBD.out _ (List.getElem_mem hlt)).1
          rcases HP.out with ⟨_, rfl⟩ | ⟨h, hk0, rfl⟩
          · exact u.1 k hlt (by omega)
          · have hs := u.2 (k - 1) (by omega)
            have e : l[k - 1 + 1]'(by omega) = l[k] := by congr 1; omega
            rw [e] at hs
            omega)
        clear hle
        generalize l[k] = x at *
        go_wp2_with fail
        go_ret
        exact ⟨.inr ⟨fun h => HN.out h.1, rfl⟩, HB0.out⟩
      · have hd : decide (l[k] ≤ p) = false := decide_eq_false hle
        have HN : Hid (UpK l (k + 1)) := Lib.hid (HU.out.next hlt (by omega) (fun hk0 => by
          rcases HP.out with ⟨h, _⟩ | ⟨h, _, e⟩
          · omega
          · rw [← e]; omega))
        obtain ⟨x, hx⟩ : ∃ x, l[k] = x := ⟨_, rfl⟩
        have HL : Hid (∃ h : k + 1 - 1 < l.length, 0 < k + 1 ∧ x = l[k + 1 - 1]) := Lib.hid ⟨by omega, by omega, by rw [← hx]; congr 1⟩
        rw [hx] at hq hd
        clear hle hp0 hx
        go_wp2_with fail
        go_roundw
        case rel => exact ⟨by trivial, k + 1, x, by omega, by go_num, rfl, HN.out, .inr HL.out⟩
        case measure => simp [intOf]; omega
    · have hii : ¬ (k : Int) < (l.length : Int) := by omega
      obtain rfl : k = l.length := by omega
      have HY : Hid (Up l) := Lib.hid (HU.out.all (Nat.le_refl _))
      have d3 : wr.cell? ⟨w.heap.size, 3, none⟩ = some (.slice a l.length cap) := cell_of_row _ _ 3 _ _ _ HZ0.out
      have d4 : wr.cell? ⟨w.heap.size, 4, none⟩ = some (.slice fa fn fc) := cell_of_row _ _ 4 _ _ _ HZ0.out
      clear hii
      by_cases hf : fn = l.length
      · subst hf
        have ht : ((l.length : Int) == (l.length : Int)) = true := by simp
        go_wp2_with fail
        go_ret
        exact ⟨.inl ⟨⟨HY.out, rfl⟩, rfl⟩, HB0.out⟩
      · have ht : ((fn : Int) == (l.length : Int)) = false := by rw [beq_eq_false_iff_ne]; omega
        have HF := Lib.hid hf
        clear hf
        go_wp2_with fail
        go_ret
        exact ⟨.inr ⟨fun h => HF.out h.2, rfl⟩, HB0.out⟩
end Go.Proofs.Ytligplnmgoailaa
