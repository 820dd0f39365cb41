/-
  The contract of Parse: a text of another length, or with other signs between its fields.
-/
import Derived.Test.YthcgdbmcpnmeeaaParse
import Derived.Test.YthcgdbmcpnmeeaaNumbersNo
namespace Go.Proofs.Ythcgdbmcpnmeeaa
set_option linter.unusedVariables false
open Go.RowKit

/-- the answer: no stamp -/
def NoParse (e : Ending) : Prop := e = .returned (.tuple #[.agg (St7 0 0 0 0 0 0 0), .int .i64 9])

set_option maxRecDepth 8000 in
set_option maxHeartbeats 1000000 in
theorem parse_size (s : ByteArray) (w : World) (hs : ((s.size : Int) != 26) = true) (hl : s.size ≤ 140737488351232) : Calls Try.prog 7 #[.string s] w fun e w' => NoParse e ∧ Below w.heap.size w w' := by
  go_enter Try.func7, Try.ntmps7
  go_wp2_with fail
  refine bodyPost_ret (v := .tuple #[.agg (St7 0 0 0 0 0 0 0), .int .i64 9]) (parse_ret _ _ _ 0 0 0 0 0 0 0 _ rfl rfl (heap_alloc_new w _)) rfl ⟨rfl, ?_⟩
  exact (Below.refl _ _).alloc (Nat.le_refl _) _

set_option maxRecDepth 8000 in
set_option maxHeartbeats 1000000 in
theorem parse_sep (s : ByteArray) (w : World) (hs : s.size = 26) (h : (((s[2].toNat : Int) != 45) = true) ∨ (((s[2].toNat : Int) != 45) = false ∧ ((s[6].toNat : Int) != 45) = true) ∨ (((s[2].toNat : Int) != 45) = false ∧ ((s[6].toNat : Int) != 45) = false ∧ ((s[11].toNat : Int) != 32) = true) ∨ (((s[2].toNat : Int) != 45) = false ∧ ((s[6].toNat : Int) != 45) = false ∧ ((s[11].toNat : Int) != 32) = false ∧ ((s[14].toNat : Int) != 58) = true) ∨ (((s[2].toNat : Int) != 45) = false ∧ ((s[6].toNat : Int) != 45) = false ∧ ((s[11].toNat : Int) != 32) = false ∧ ((s[14].toNat : Int) != 58) = false ∧ ((s[17].toNat : Int) != 58) = true) ∨ (((s[2].toNat : Int) != 45) = false ∧ ((s[6].toNat : Int) != 45) = false ∧ ((s[11].toNat : Int) != 32) = false ∧ ((s[14].toNat : Int) != 58) = false ∧ ((s[17].toNat : Int) != 58) = false ∧ ((s[20].toNat : Int) != 32) = true)) : Calls Try.prog 7 #[.string s] w fun e w' => NoParse e ∧ Below w.heap.size w w' := by
  rcases h with h | h | h | h | h | h
  · skip
    go_enter Try.func7, Try.ntmps7
    go_wp2_with fail
    refine bodyPost_ret (v := .tuple #[.agg (St7 0 0 0 0 0 0 0), .int .i64 9]) (parse_ret _ _ _ 0 0 0 0 0 0 0 _ rfl rfl (heap_alloc_new w _)) rfl ⟨rfl, ?_⟩
    exact (Below.refl _ _).alloc (Nat.le_refl _) _
  · obtain ⟨h0, h1⟩ := h
    go_enter Try.func7, Try.ntmps7
    go_wp2_with fail
    refine bodyPost_ret (v := .tuple #[.agg (St7 0 0 0 0 0 0 0), .int .i64 9]) (parse_ret _ _ _ 0 0 0 0 0 0 0 _ rfl rfl (heap_alloc_new w _)) rfl ⟨rfl, ?_⟩
    exact (Below.refl _ _).alloc (Nat.le_refl _) _
  · obtain ⟨h0, h1, h2⟩ := h
    go_enter Try.func7, Try.ntmps7
    go_wp2_with fail
    refine bodyPost_ret (v := .tuple #[.agg (St7 0 0 0 0 0 0 0), .int .i64 9]) (parse_ret _ _ _ 0 0 0 0 0 0 0 _ rfl rfl (heap_alloc_new w _)) rfl ⟨rfl, ?_⟩
    exact (Below.refl _ _).alloc (Nat.le_refl _) _
  · obtain ⟨h0, h1, h2, h3⟩ := h
    go_enter Try.func7, Try.ntmps7
    go_wp2_with fail
    refine bodyPost_ret (v := .tuple #[.agg (St7 0 0 0 0 0 0 0), .int .i64 9]) (parse_ret _ _ _ 0 0 0 0 0 0 0 _ rfl rfl (heap_alloc_new w _)) rfl ⟨rfl, ?_⟩
    exact (Below.refl _ _).alloc (Nat.le_refl _) _
  · obtain ⟨h0, h1, h2, h3, h4⟩ := h
    go_enter Try.func7, Try.ntmps7
    go_wp2_with fail
    refine bodyPost_ret (v := .tuple #[.agg (St7 0 0 0 0 0 0 0), .int .i64 9]) (parse_ret _ _ _ 0 0 0 0 0 0 0 _ rfl rfl (heap_alloc_new w _)) rfl ⟨rfl, ?_⟩
    exact (Below.refl _ _).alloc (Nat.le_refl _) _
  · obtain ⟨h0, h1, h2, h3, h4, h5⟩ := h
    go_enter Try.func7, Try.ntmps7
    go_wp2_with fail
    refine bodyPost_ret (v := .tuple #[.agg (St7 0 0 0 0 0 0 0), .int .i64 9]) (parse_ret _ _ _ 0 0 0 0 0 0 0 _ rfl rfl (heap_alloc_new w _)) rfl ⟨rfl, ?_⟩
    exact (Below.refl _ _).alloc (Nat.le_refl _) _

set_option maxRecDepth 8000 in
set_option maxHeartbeats 4000000 in
theorem parse_nonum (s : ByteArray) (w : World) (hs : s.size = 26) 
    (k2 : ((s[2].toNat : Int) != 45) = false) (k6 : ((s[6].toNat : Int) != 45) = false) (k11 : ((s[11].toNat : Int) != 32) = false) (k14 : ((s[14].toNat : Int) != 58) = false) (k17 : ((s[17].toNat : Int) != 58) = false) (k20 : ((s[20].toNat : Int) != 32) = false)
    (hd : (fieldsS s).all digS = false) (h4 : ∀ f ∈ fieldsS s, f.size ≤ 4) :
    Calls Try.prog 7 #[.string s] w fun e w' => NoParse e ∧ Below w.heap.size w w' := by
  have HD := Lib.hid hd
  have H4 := Lib.hid h4
  clear hd h4
  go_enter Try.func7, Try.ntmps7
  go_upto_if 46 with (fail)
  go_cut [4] (fun f wx => f = .string (firstS s) ∧ wx = w.alloc (.cells z7 23))
  case first =>
    rcases Bool.eq_false_or_eq_true ((s.extract 0 1).toList == [32]) with ht | ht
    all_goals
      have HT := Lib.hid ht
      rw [ht]
      clear ht k2 k6 k11 k14 k17 k20
      go_wp2_with fail
      go_meet
      exact ⟨by unfold firstS; rw [HT.out]; rfl, rfl⟩
  case rest =>
    obtain ⟨hf, hw⟩ := hcut
    subst hf
    subst hw
    have hst : StrsAt ((w.alloc (.cells z7 23)).alloc (.cells ((fieldsS s).map Value.string).toArray 9)).drew (w.heap.size + 1) (fieldsS s) := by
      intro j hj
      rw [World.cell?_drew, cell_of_row _ _ j _ 9 (0, 0) (by simpa using heap_alloc_new (w.alloc (.cells z7 23)) _)]
      simp [hj]
    have HST := Lib.hid hst
    go_wp2_with fail
    go_cut [5, 6] (fun o b wx => b = .bool false ∧ Below (w.heap.size + 1) (w.alloc (.cells z7 23)) wx)
    case first =>
      go_region_held3 (fun _ => True) (trivial)
        ((go_at_call 15; refine (numbers_no (w.heap.size + 1) 8 (fieldsS s) _ rfl (by simp [fieldsS]) (by simp) HST.out H4.out HD.out).mono ?_; rintro e w2 ⟨rfl, hb2⟩))
      all_goals
        go_wp2_with fail
        go_meet
        refine ⟨rfl, ?_⟩
        exact ((((Below.refl (w.heap.size + 1) (w.alloc (.cells z7 23))).alloc (by simp) _).drew).trans (hb2.mono (by simp)))
    case rest =>
      obtain ⟨hb, hbel⟩ := hcut
      subst hb
      have hzx : wc.heap[w.heap.size]? = some (.cells z7 23 (0, 0)) := by
        rw [hbel.block _ (by omega)]; exact heap_alloc_new w _
      have zc : ∀ j, wc.cell? ⟨w.heap.size, j, none⟩ = z7[j]? := fun j => cell_of_row _ _ j _ 23 (0, 0) hzx
      have g0 : wc.cell? ⟨w.heap.size, 0, none⟩ = some (.int .i64 0) := zc 0
      have g1 : wc.cell? ⟨w.heap.size, 1, none⟩ = some (.int .i64 0) := zc 1
      have g2 : wc.cell? ⟨w.heap.size, 2, none⟩ = some (.int .i64 0) := zc 2
      have g3 : wc.cell? ⟨w.heap.size, 3, none⟩ = some (.int .i64 0) := zc 3
      have g4 : wc.cell? ⟨w.heap.size, 4, none⟩ = some (.int .i64 0) := zc 4
      have g5 : wc.cell? ⟨w.heap.size, 5, none⟩ = some (.int .i64 0) := zc 5
      have g6 : wc.cell? ⟨w.heap.size, 6, none⟩ = some (.int .i64 0) := zc 6
      have k0 : wc.frozen? ⟨w.heap.size, 0, none⟩ = false := frozen_of_row _ _ _ _ _ hzx
      have k1 : wc.frozen? ⟨w.heap.size, 1, none⟩ = false := frozen_of_row _ _ _ _ _ hzx
      have k2 : wc.frozen? ⟨w.heap.size, 2, none⟩ = false := frozen_of_row _ _ _ _ _ hzx
      have k3 : wc.frozen? ⟨w.heap.size, 3, none⟩ = false := frozen_of_row _ _ _ _ _ hzx
      have k4 : wc.frozen? ⟨w.heap.size, 4, none⟩ = false := frozen_of_row _ _ _ _ _ hzx
      have k5 : wc.frozen? ⟨w.heap.size, 5, none⟩ = false := frozen_of_row _ _ _ _ _ hzx
      have k6 : wc.frozen? ⟨w.heap.size, 6, none⟩ = false := frozen_of_row _ _ _ _ _ hzx
      have HZ := Lib.hid hzx
      have HBE := Lib.hid hbel
      clear hbel hzx hst zc
      go_wp2_with fail
      have hfin := put7_row wc w.heap.size 0 0 0 0 0 0 0 HZ.out
      refine bodyPost_ret (v := .tuple #[.agg (St7 0 0 0 0 0 0 0), .int .i64 9]) (parse_ret _ _ _ _ _ _ _ _ _ _ _ rfl rfl hfin) rfl ⟨rfl, ?_⟩
      exact put7_below _ _ _ _ _ _ _ _ (((Below.refl _ _).alloc (Nat.le_refl _) _).trans (HBE.out.mono (by simp))) (Nat.le_refl _)
end Go.Proofs.Ythcgdbmcpnmeeaa
