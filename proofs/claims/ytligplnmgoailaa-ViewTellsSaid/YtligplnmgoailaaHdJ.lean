/-
  The laws' own comparisons, of things that are alike.
-/
import Derived.Test.YtligplnmgoailaaHdE
import Derived.Laws.BytesString
import Derived.Laws.BytesArg
namespace Go.Proofs.Ytligplnmgoailaa
set_option linter.unusedVariables false
open Go.RowKit
attribute [local go_sem] Oper.semAt_some

theorem eqS_any (s : ByteArray) (w : World) : Calls Try.prog 37 #[.string s, .string s] w fun e w' => e = .returned (.bool true) ∧ w' = w := by
  go_enter Try.func37, Try.ntmps37
  go_wp2_with fail
  go_ret
  exact ⟨by simp, rfl⟩
theorem RowS.shape {w : World} {v : Value} {F : List ByteArray} (h : RowS w v F) : ∃ b off a cap, v = .slice a F.length cap ∧ (0 < F.length → a = some ⟨b, off, none⟩ ∧ b < w.heap.size) ∧ ∀ i (hi : i < F.length), w.cell? ⟨b, off + i, none⟩ = some (.string F[i]) := by
  obtain ⟨b, off, a, cap, e, -, -, -, ha, hc⟩ := h.1.shape
  refine ⟨b, off, a, cap, e, fun h0 => ha (by simpa [strV] using h0), fun i hi => ?_⟩
  have := hc i (by simpa [strV] using hi)
  simpa [strV] using this

set_option maxRecDepth 100000 in
set_option maxHeartbeats 2000000 in
theorem sameS_any {va vb : Value} {F : List ByteArray} {w : World} (ha : RowS w va F) (hb : RowS w vb F) :
    Calls Try.prog 36 #[va, vb, .func (.func 37) #[] #[]] w fun e w' => e = .returned (.bool true) ∧ Below w.heap.size w w' := by
  obtain ⟨b1, o1, a1, c1, rfl, h1, g1⟩ := ha.shape
  obtain ⟨b2, o2, a2, c2, rfl, h2, g2⟩ := hb.shape
  have hn := ha.2
  have H1 := Lib.hid h1
  have H2 := Lib.hid h2
  have G1 := Lib.hid g1
  have G2 := Lib.hid g2
  clear ha hb h1 h2 g1 g2
  go_enter Try.func36, Try.ntmps36
  go_wp2_with fail
  go_loopw [7] (fun i wr => ∃ k : Nat, k ≤ F.length ∧ i = .int .i64 k ∧ Below w.heap.size w wr) (fun i _ => F.length - (intOf i).toNat)
  case atStart => exact ⟨0, Nat.zero_le _, rfl, Below.refl _ _⟩
  case round =>
    obtain ⟨k, hk, rfl, hst⟩ := hrel
    by_cases hlt : k < F.length
    · have hii : (k : Int) < (F.length : Int) := by omega
      obtain ⟨rfl, hb1⟩ := H1.out (by omega)
      obtain ⟨rfl, hb2⟩ := H2.out (by omega)
      have d1 : wr.cell? ⟨b1, o1 + k, none⟩ = some (.string F[k]) := (hst.cell (p := ⟨b1, o1 + k, none⟩) hb1).trans (G1.out k hlt)
      have d2 : wr.cell? ⟨b2, o2 + k, none⟩ = some (.string F[k]) := (hst.cell (p := ⟨b2, o2 + k, none⟩) hb2).trans (G2.out k hlt)
      generalize F[k] = s at *
      go_wp2_with fail
      go_quiet ((go_at_call 37; exact Calls.quiet_of_same (eqS_any s _)))
      go_wp2_with fail
      go_roundw
      case rel => exact ⟨k + 1, by omega, by go_num, below_drewN hst _⟩
      case measure => simp [intOf]; omega
    · have hii : ¬ (k : Int) < (F.length : Int) := by omega
      go_wp2_with fail
      go_ret
      exact ⟨rfl, hst⟩
theorem plainS_any {va vb : Value} {F : List ByteArray} {w : World} (ha : RowS w va F) (hb : RowS w vb F) :
    Calls Try.prog 22 #[va, vb] w fun e w' => e = .returned (.bool true) ∧ Below w.heap.size w w' := by
  go_enter Try.func22, Try.ntmps22
  go_wp2_with fail
  refine (sameS_any ha hb).mono ?_
  rintro e w1 ⟨rfl, hst⟩
  go_wp2_with fail
  go_ret
  exact ⟨rfl, hst⟩

def strN (l : List Nat) : ByteArray := ⟨(l.map UInt8.ofNat).toArray⟩
theorem ints_of (l : List Nat) : strOfNums (l.map (fun (n : Nat) => (n : Int))) = strN l := by simp [strOfNums, strN, Function.comp_def]
/-- bytes as a text -/
theorem run_strY {w : World} {v : Value} {B : List Nat} (h : RowY w v B) : (convert 47 9 v).run Try.prog w = .ok (.string (strN B)) w := by
  obtain ⟨a, cap, rfl, hc, hm, hl, hn, hcell⟩ := h.1
  cases a with
  | none =>
    obtain ⟨h0, rfl⟩ := hn rfl
    obtain rfl : B = [] := List.eq_nil_of_length_eq_zero h0
    exact run_convert_bytes_nil w 47 5 Try.underlying47 Try.underlying5 0 0 9 Try.underlying9
  | some x =>
    rw [run_convert_bytes_string w 47 9 5 _ B.length cap Try.underlying47 Try.underlying5 Try.underlying9,
      run_bytesToString w x B.length cap (B.map (fun (n : Nat) => (n : Int))) ?_, foldl_push_bytes]
    · rw [← ints_of]
      simp [strOfNums, ByteArray.empty, ByteArray.emptyWithCapacity]
      rfl
    · have := run_loadCells_list (P := Try.prog) w x (bytV B) (fun j v hj => by
        obtain ⟨hjl, rfl⟩ := List.getElem?_eq_some_iff.1 hj
        exact hcell x rfl j hjl)
      rw [show (bytV B).length = B.length by simp [bytV]] at this
      rw [this]
      simp [bytV, Function.comp_def]
theorem bytes_any {va vb : Value} {B : List Nat} {w : World} (ha : RowY w va B) (hb : RowY w vb B) :
    Calls Try.prog 39 #[va, vb] w fun e w' => e = .returned (.bool true) ∧ Below w.heap.size w w' := by
  have h1 := run_strY ha
  have h2 := run_strY hb
  clear ha hb
  generalize strN B = s at *
  go_enter Try.func39, Try.ntmps39
  go_wp2_with fail
  go_ret
  exact ⟨by simp, Below.refl _ _⟩
set_option maxRecDepth 100000 in
set_option maxHeartbeats 4000000 in
theorem sameHeld_any (p q : HeldD) (w : World) (hp : HeldOk w p) (hq : HeldOk w q) (hk : keyD p = keyD q) :
    Calls Try.prog 28 #[.agg (heldA p), .agg (heldA q)] w fun e w' => e = .returned (.bool true) ∧ Below w.heap.size w w' := by
  obtain ⟨uid, up, pf, F, date, size, has, pv, B, gone, used⟩ := p
  obtain ⟨uid', up', qf, F', date', size', has', qv, B', gone', used'⟩ := q
  simp only [keyD, Prod.mk.injEq] at hk
  obtain ⟨rfl, rfl, rfl, rfl, rfl, rfl, rfl, rfl, rfl⟩ := hk
  obtain ⟨pa, pc, h1, -⟩ := id hp.rf.1
  obtain ⟨pb, pd, h2, -⟩ := id hp.rb.1
  obtain ⟨qa, qc, h3, -⟩ := id hq.rf.1
  obtain ⟨qb, qd, h4, -⟩ := id hq.rb.1
  simp only at h1 h2 h3 h4
  subst h1 h2 h3 h4
  have HP := Lib.hid hp
  have HQ := Lib.hid hq
  clear hp hq
  unfold heldA
  go_enter Try.func28, Try.ntmps28
  go_wp2_with fail
  have hb0 : Below w.heap.size w ((w.alloc (.cells #[.int .u32 uid, .int .u32 up, .slice pa F.length pc, .string date, .int .i64 size, .bool has, .slice pb B.length pd, .bool gone, .int .i64 used] 49)).alloc (.cells #[.int .u32 uid, .int .u32 up, .slice qa F.length qc, .string date, .int .i64 size, .bool has, .slice qb B.length qd, .bool gone, .int .i64 used] 49)) := ((Below.refl _ _).alloc (Nat.le_refl _) _).alloc (by simp) _
  have RP : Rw ((w.alloc (.cells #[.int .u32 uid, .int .u32 up, .slice pa F.length pc, .string date, .int .i64 size, .bool has, .slice pb B.length pd, .bool gone, .int .i64 used] 49)).alloc (.cells #[.int .u32 uid, .int .u32 up, .slice qa F.length qc, .string date, .int .i64 size, .bool has, .slice qb B.length qd, .bool gone, .int .i64 used] 49)) w.heap.size #[.int .u32 uid, .int .u32 up, .slice pa F.length pc, .string date, .int .i64 size, .bool has, .slice pb B.length pd, .bool gone, .int .i64 used] 49 := (Below.heap_alloc _ _ _ (by simp)).trans (heap_alloc_new w _)
  have RQ : Rw ((w.alloc (.cells #[.int .u32 uid, .int .u32 up, .slice pa F.length pc, .string date, .int .i64 size, .bool has, .slice pb B.length pd, .bool gone, .int .i64 used] 49)).alloc (.cells #[.int .u32 uid, .int .u32 up, .slice qa F.length qc, .string date, .int .i64 size, .bool has, .slice qb B.length qd, .bool gone, .int .i64 used] 49)) (w.heap.size + 1) #[.int .u32 uid, .int .u32 up, .slice qa F.length qc, .string date, .int .i64 size, .bool has, .slice qb B.length qd, .bool gone, .int .i64 used] 49 := two_row w _ _
  have hs0 : ((w.alloc (.cells #[.int .u32 uid, .int .u32 up, .slice pa F.length pc, .string date, .int .i64 size, .bool has, .slice pb B.length pd, .bool gone, .int .i64 used] 49)).alloc (.cells #[.int .u32 uid, .int .u32 up, .slice qa F.length qc, .string date, .int .i64 size, .bool has, .slice qb B.length qd, .bool gone, .int .i64 used] 49)).heap.size = w.heap.size + 2 := by simp
  generalize ((w.alloc (.cells #[.int .u32 uid, .int .u32 up, .slice pa F.length pc, .string date, .int .i64 size, .bool has, .slice pb B.length pd, .bool gone, .int .i64 used] 49)).alloc (.cells #[.int .u32 uid, .int .u32 up, .slice qa F.length qc, .string date, .int .i64 size, .bool has, .slice qb B.length qd, .bool gone, .int .i64 used] 49)) = w0 at *
  have hf1 : RowS w0 (.slice pa F.length pc) F := HP.out.rf.below hb0
  have hf2 : RowS w0 (.slice qa F.length qc) F := HQ.out.rf.below hb0
  refine (plainS_any hf1 hf2).mono ?_
  rintro e w1 ⟨rfl, hb1⟩
  have RP1 := RP.below hb1 (by omega)
  have RQ1 := RQ.below hb1 (by omega)
  have HB1 := Lib.hid (hb0.trans (hb1.mono hb0.size))
  have a0 := RP1.cell 0 (.int .u32 uid) rfl
  have b0 := RQ1.cell 0 (.int .u32 uid) rfl
  have a1 := RP1.cell 1 (.int .u32 up) rfl
  have b1 := RQ1.cell 1 (.int .u32 up) rfl
  have a2 := RP1.cell 2 (.slice pa F.length pc) rfl
  have b2 := RQ1.cell 2 (.slice qa F.length qc) rfl
  have a3 := RP1.cell 3 (.string date) rfl
  have b3 := RQ1.cell 3 (.string date) rfl
  have a4 := RP1.cell 4 (.int .i64 size) rfl
  have b4 := RQ1.cell 4 (.int .i64 size) rfl
  have a5 := RP1.cell 5 (.bool has) rfl
  have b5 := RQ1.cell 5 (.bool has) rfl
  have a6 := RP1.cell 6 (.slice pb B.length pd) rfl
  have b6 := RQ1.cell 6 (.slice qb B.length qd) rfl
  have a7 := RP1.cell 7 (.bool gone) rfl
  have b7 := RQ1.cell 7 (.bool gone) rfl
  have a8 := RP1.cell 8 (.int .i64 used) rfl
  have b8 := RQ1.cell 8 (.int .i64 used) rfl
  clear RP RQ hb0 hb1 RP1 RQ1 hf1 hf2
  go_wp2_with fail
  have hg1 : RowY w1 (.slice pb B.length pd) B := HP.out.rb.below HB1.out
  have hg2 : RowY w1 (.slice qb B.length qd) B := HQ.out.rb.below HB1.out
  refine (bytes_any hg1 hg2).mono ?_
  rintro e w2 ⟨rfl, hb2⟩
  have HB2 := Lib.hid (HB1.out.trans (hb2.mono HB1.out.size))
  have hlt0 : w.heap.size < w1.heap.size := World.block_lt_of_cell? w1 _ a0
  have hlt1 : w.heap.size + 1 < w1.heap.size := World.block_lt_of_cell? w1 _ b0
  replace a7 := (hb2.cell (p := ⟨w.heap.size, 7, none⟩) hlt0).trans a7
  replace a8 := (hb2.cell (p := ⟨w.heap.size, 8, none⟩) hlt0).trans a8
  replace b7 := (hb2.cell (p := ⟨w.heap.size + 1, 7, none⟩) hlt1).trans b7
  replace b8 := (hb2.cell (p := ⟨w.heap.size + 1, 8, none⟩) hlt1).trans b8
  clear a0 a1 a2 a3 a4 a5 a6 b0 b1 b2 b3 b4 b5 b6 hb2 hg1 hg2
  go_wp2_with fail
  go_ret
  exact ⟨rfl, HB2.out⟩
end Go.Proofs.Ytligplnmgoailaa
