/-
  Two sights held against each other; the reference's Number.
-/
import Derived.Test.YtligplnmgoailaaHdK
import Derived.Test.YtligplnmgoailaaViewLaw
import Derived.Lib.QuietBelow
import Derived.BigQuiet
namespace Go.Proofs.Ytligplnmgoailaa
set_option linter.unusedVariables false
open Go.RowKit Go.Sort
attribute [local go_sem] Oper.semAt_some

set_option maxRecDepth 100000 in
set_option maxHeartbeats 4000000 in
theorem sight_any (nm : ByteArray) (va : Int) (rd : Bool) (u1 u2 f1 f2 : Value) (U V : List Int) (FF GG : List (Value × List ByteArray)) (w : World)
    (hu : RowN w u1 U) (hv : RowN w u2 V) (huv : U = V)
    (ha : RowV w 1 f1 FF.length (FF.map (·.1))) (hb : RowV w 1 f2 GG.length (GG.map (·.1))) (hA : ∀ p ∈ FF, RowS w p.1 p.2) (hB : ∀ p ∈ GG, RowS w p.1 p.2) (hk : FF.map (·.2) = GG.map (·.2)) :
    Calls Try.prog 8 #[.agg (sightV nm va rd u1 f1), .agg (sightV nm va rd u2 f2)] w fun e w' => e = .returned (.bool true) ∧ Below w.heap.size w w' := by
  obtain ⟨pa, pc, rfl, -⟩ := id hu.1
  obtain ⟨qa, qc, rfl, -⟩ := id hv.1
  obtain ⟨ra, rc, rfl, -⟩ := id ha
  obtain ⟨sa, sc, rfl, -⟩ := id hb
  have hP : ∀ W, Below w.heap.size w W → Calls Try.prog 16 #[.slice pa U.length pc, .slice qa V.length qc] W fun e w' => e = .returned (.bool true) ∧ Below W.heap.size W w' := fun W hW =>
    (plainN_any (hu.below hW) (hv.below hW)).mono fun e w' h => ⟨by rw [h.1, decide_eq_true huv], h.2⟩
  have hS : ∀ W, Below w.heap.size w W → Calls Try.prog 21 #[.slice ra FF.length rc, .slice sa GG.length sc, .func (.func 22) #[] #[]] W fun e w' => e = .returned (.bool true) ∧ Below W.heap.size W w' := fun W hW =>
    sameF_any (ha.below hW) (hb.below hW) (fun p hp => ⟨(hA p hp).1.below hW, (hA p hp).2⟩) (fun p hp => ⟨(hB p hp).1.below hW, (hB p hp).2⟩) hk
  have HP := Lib.hid hP
  have HS := Lib.hid hS
  clear ha hb hk hA hB hu hv hP hS huv
  unfold sightV
  go_enter Try.func8, Try.ntmps8
  go_wp2_with fail
  have hb0 : Below w.heap.size w ((w.alloc (.cells #[.string nm, .int .u32 va, .bool rd, .slice pa U.length pc, .slice ra FF.length rc] 29)).alloc (.cells #[.string nm, .int .u32 va, .bool rd, .slice qa V.length qc, .slice sa GG.length sc] 29)) := ((Below.refl _ _).alloc (Nat.le_refl _) _).alloc (by simp) _
  refine (HP.out _ hb0).mono ?_
  rintro e w1 ⟨rfl, hb1⟩
  have h1 := hb0.trans (hb1.mono hb0.size)
  have H1 := Lib.hid h1
  have hs1 : (((w.alloc (.cells #[.string nm, .int .u32 va, .bool rd, .slice pa U.length pc, .slice ra FF.length rc] 29)).alloc (.cells #[.string nm, .int .u32 va, .bool rd, .slice qa V.length qc, .slice sa GG.length sc] 29))).heap.size = w.heap.size + 2 := by simp
  have r1 : w1.heap[w.heap.size]? = some (.cells #[.string nm, .int .u32 va, .bool rd, .slice pa U.length pc, .slice ra FF.length rc] 29 (0, 0)) := by
    rw [hb1.block _ (by rw [hs1]; omega)]; rw [heap_alloc_old _ _ (by simp)]; exact heap_alloc_new w _
  have r2 : w1.heap[w.heap.size + 1]? = some (.cells #[.string nm, .int .u32 va, .bool rd, .slice qa V.length qc, .slice sa GG.length sc] 29 (0, 0)) := by
    rw [hb1.block _ (by rw [hs1]; omega)]; exact two_row w _ _
  have x4 : w1.cell? ⟨w.heap.size, 4, none⟩ = some (.slice ra FF.length rc) := cell_of_row _ _ 4 _ _ _ r1
  have y4 : w1.cell? ⟨w.heap.size + 1, 4, none⟩ = some (.slice sa GG.length sc) := cell_of_row _ _ 4 _ _ _ r2
  clear hb0 hb1 h1 r1 r2 hs1
  go_wp2_with fail
  refine (HS.out _ H1.out).mono ?_
  rintro e w2 ⟨rfl, hb2⟩
  have HB2 := Lib.hid (H1.out.trans (hb2.mono H1.out.size))
  clear hb2
  go_wp2_with fail
  go_ret
  exact ⟨rfl, HB2.out⟩

set_option maxHeartbeats 1000000 in
/-- the reference's Number -/
theorem rnumber_any (bx : ByteArray) (vl : Int) (rd : Bool) (v f : Value) (l : List Int) (x : Int) (w : World) (hr : RowN w v l) (hlen : l.length ≤ 1000) :
    Calls Try.prog 15 #[.agg (sightV bx vl rd v f), .int .u32 x] w fun e w' => (∃ r : Int, e = .returned (.int .i64 r) ∧ ((r = 0 ∧ ∀ i (h : i < l.length), l[i] ≠ x) ∨ ∃ k : Nat, r = k + 1 ∧ (∃ h : k < l.length, l[k] = x) ∧ ∀ i (h : i < l.length), i < k → l[i] ≠ x)) ∧ Below w.heap.size w w' := by
  obtain ⟨b, off, a, cap, rfl, hc, hm, ha, hcell⟩ := hr.shape
  have HC := Lib.hid hcell
  have HA := Lib.hid ha
  clear hr hcell ha
  unfold sightV
  go_enter Try.func15, Try.ntmps15
  go_wp2_with fail
  go_loopw [5] (fun i wr => ∃ k : Nat, k ≤ l.length ∧ i = .int .i64 k ∧ (∀ j (h : j < l.length), j < k → l[j] ≠ x) ∧ Below w.heap.size w wr ∧ wr.heap[w.heap.size]? = some (.cells #[.string bx, .int .u32 vl, .bool rd, .slice a l.length cap, f] 29 (0, 0))) (fun i _ => l.length - (intOf i).toNat)
  case atStart => exact ⟨0, by omega, rfl, fun j h1 h2 => by omega, (Below.refl _ _).alloc (Nat.le_refl _) _, heap_alloc_new w _⟩
  case round =>
    obtain ⟨k, hk, rfl, hup, hb, hz⟩ := hrel
    have HU := Lib.hid hup
    have z3 : wr.cell? ⟨w.heap.size, 3, none⟩ = some (.slice a l.length cap) := cell_of_row _ _ 3 _ _ _ hz
    clear hup
    by_cases hlt : k < l.length
    · have hii : (k : Int) < (l.length : Int) := by omega
      obtain ⟨rfl, hbl⟩ := HA.out (by omega)
      have hq : wr.cell? ⟨b, off + k, none⟩ = some (.int .u32 l[k]) := (hb.cell (p := ⟨b, off + k, none⟩) hbl).trans (HC.out k hlt)
      have xc0 := fun n os => cell_regrown hq n os
      have xc3 := fun n os => cell_regrown z3 n os
      have HB := Lib.hid hb
      have HZ := Lib.hid hz
      by_cases he : l[k] = x
      · have HE := Lib.hid (show ∃ h : k < l.length, l[k] = x from ⟨hlt, he⟩)
        have hd : (l[k] == x) = true := by simp [he]
        clear he hb hz
        generalize l[k] = y at *
        go_wp2_with fail
        go_ret
        exact ⟨⟨_, rfl, .inr ⟨k, rfl, HE.out, HU.out⟩⟩, HB.out⟩
      · have hd : (l[k] == x) = false := by simp [he]
        have HE := Lib.hid he
        clear he hb hz
        have HN : Hid (∀ j (h : j < l.length), j < k + 1 → l[j] ≠ x) := Lib.hid (fun j h1 h2 => by
          rcases Nat.lt_or_eq_of_le (Nat.lt_succ_iff.1 h2) with h | rfl
          · exact HU.out j h1 h
          · exact HE.out)
        generalize l[k] = y at *
        go_wp2_with fail
        go_roundw
        case rel => exact ⟨k + 1, by omega, by go_num, HN.out, HB.out, HZ.out⟩
        case measure => simp [intOf]; omega
    · have hii : ¬ (k : Int) < (l.length : Int) := by omega
      have hkk : k = l.length := by omega
      have HB := Lib.hid hb
      clear hb hz
      go_wp2_with fail
      go_ret
      exact ⟨⟨0, rfl, .inl ⟨rfl, fun i h => HU.out i h (by omega)⟩⟩, HB.out⟩
end Go.Proofs.Ytligplnmgoailaa
