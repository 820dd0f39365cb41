/-
  The contract of the reference's Parse.
-/
import Derived.Test.YthcgdbmcpnmeeaaTwoQ
import Derived.Test.YthcgdbmcpnmeeaaParseNoSep
import Derived.Test.YthcgdbmcpnmeeaaRNo
import Derived.Lib.SmallJoins
namespace Go.Proofs.Ythcgdbmcpnmeeaa
set_option linter.unusedVariables false
open Go.RowKit

def maskL : List Nat := [46, 46, 45, 46, 46, 46, 45, 46, 46, 46, 46, 32, 46, 46, 58, 46, 46, 58, 46, 46, 32, 46, 46, 46, 46, 46]
def maskN (k : Nat) : Nat := maskL.getD k 46
def maskV : Array Value := #[.int .u8 46, .int .u8 46, .int .u8 45, .int .u8 46, .int .u8 46, .int .u8 46, .int .u8 45, .int .u8 46, .int .u8 46, .int .u8 46, .int .u8 46, .int .u8 32, .int .u8 46, .int .u8 46, .int .u8 58, .int .u8 46, .int .u8 46, .int .u8 58, .int .u8 46, .int .u8 46, .int .u8 32, .int .u8 46, .int .u8 46, .int .u8 46, .int .u8 46, .int .u8 46]
theorem maskV_at (k : Nat) (h : k < 26) : maskV[k]? = some (.int .u8 (maskN k)) := by
  have : ∀ k : Fin 26, maskV[k.val]? = some (.int .u8 (maskN k.val)) := by intro k; match k with | ⟨k, hk⟩ => exact (by
    have : k = 0 ∨ k = 1 ∨ k = 2 ∨ k = 3 ∨ k = 4 ∨ k = 5 ∨ k = 6 ∨ k = 7 ∨ k = 8 ∨ k = 9 ∨ k = 10 ∨ k = 11 ∨ k = 12 ∨ k = 13 ∨ k = 14 ∨ k = 15 ∨ k = 16 ∨ k = 17 ∨ k = 18 ∨ k = 19 ∨ k = 20 ∨ k = 21 ∨ k = 22 ∨ k = 23 ∨ k = 24 ∨ k = 25 := by omega
    rcases this with rfl | rfl | rfl | rfl | rfl | rfl | rfl | rfl | rfl | rfl | rfl | rfl | rfl | rfl | rfl | rfl | rfl | rfl | rfl | rfl | rfl | rfl | rfl | rfl | rfl | rfl <;> rfl)
  exact this ⟨k, h⟩
/-- the sign at place k is as the form has it -/
def sepAt (s : ByteArray) (k : Nat) : Bool := (maskN k == 46) || ((s.data.toList.getD k 0).toNat == maskN k)

theorem parse_ret8 (tmps : Array Value) (w : World) (b : Nat) (y mo d h mi s z : Int) (v : Value) (hp : tmps.getD 2 undef = .pointer (some ⟨b, 0, none⟩)) (hv : tmps.getD 3 undef = v) (hg : w.heap[b]? = some (.cells (St7 y mo d h mi s z) 23 (0, 0))) :
    (results Try.f8 tmps).run Try.prog w = .ok (.tuple #[.agg (St7 y mo d h mi s z), v]) w := by
  rw [results_cell_tmp (fn := Try.f8) (p := 2) (u := 3) (ty := 23) rfl, hp]
  have hl := run_loadVar_row (P := Try.prog) w b 23 23 (St7 y mo d h mi s z) (0, 0) _ hg Try.underlying23 rfl (by kernel_rfl)
  simp only [asAddr]
  show Result.andThen ((loadVar 23 ⟨b, 0, none⟩).run Try.prog w) _ = _
  rw [hl]
  show Result.ok _ _ = _
  rw [hv]

set_option maxRecDepth 8000 in
set_option maxHeartbeats 1000000 in
theorem rparse_size (s : ByteArray) (w : World) (hs : ((s.size : Int) != 26) = true) (hl : s.size ≤ 140737488351232) : Calls Try.prog 8 #[.string s] w fun e w' => NoParse e ∧ Below w.heap.size w w' := by
  go_enter Try.func8, Try.ntmps8
  go_wp2_with fail
  refine bodyPost_ret (v := .tuple #[.agg (St7 0 0 0 0 0 0 0), .int .i64 9]) (parse_ret8 _ _ _ 0 0 0 0 0 0 0 _ rfl rfl (heap_alloc_new w _)) rfl ⟨rfl, ?_⟩
  exact (Below.refl _ _).alloc (Nat.le_refl _) _


/-- the world ahead of the loop -/
def mw (w : World) : World := (w.alloc (.cells z7 23)).alloc (.cells maskV 5 (26, 27))
theorem mw_row (w : World) : (mw w).heap[w.heap.size + 1]? = some (.cells maskV 5 (26, 27)) := by
  have := heap_alloc_new (w.alloc (.cells z7 23)) (.cells maskV 5 (26, 27))
  simpa [mw] using this
theorem mw_cell (w : World) (k : Nat) (h : k < 26) : (mw w).cell? ⟨w.heap.size + 1, k, none⟩ = some (.int .u8 (maskN k)) := (cell_of_row _ _ k _ 5 (26, 27) (mw_row w)).trans (maskV_at k h)
theorem mw_z7 (w : World) : (mw w).heap[w.heap.size]? = some (.cells z7 23 (0, 0)) := by
  rw [show mw w = (w.alloc (.cells z7 23)).alloc (.cells maskV 5 (26, 27)) from rfl, ((Below.refl (w.alloc (.cells z7 23)).heap.size _).alloc (Nat.le_refl _) _).block _ (by simp)]
  exact heap_alloc_new w _
theorem mw_below (w : World) : Below w.heap.size w (mw w) := ((Below.refl _ _).alloc (Nat.le_refl _) _).alloc (by simp) _
theorem mw_size (w : World) : (mw w).heap.size = w.heap.size + 2 := by simp [mw]

theorem byte_at (s : ByteArray) (k : Nat) (h : k < s.size) : s.data.toList.getD k 0 = s[k] := by
  rw [List.getD_eq_getElem?_getD, List.getElem?_eq_getElem (by simpa using h)]; rfl

theorem sep_ways (s : ByteArray) (k : Nat) (h : k < s.size) : (sepAt s k = true ∧ (((maskN k : Int) != 46) = false ∨ (((maskN k : Int) != 46) = true ∧ ((s[k].toNat : Int) != (maskN k : Int)) = false))) ∨ (sepAt s k = false ∧ ((maskN k : Int) != 46) = true ∧ ((s[k].toNat : Int) != (maskN k : Int)) = true) := by
  unfold sepAt
  rw [byte_at s k h]
  generalize s[k].toNat = x
  generalize maskN k = c
  by_cases h1 : c = 46
  · subst h1; left; exact ⟨by simp, .inl (by decide)⟩
  · have h1' : ((c : Int) != 46) = true := by rw [bne_iff_ne]; omega
    by_cases h2 : x = c
    · subst h2; left; exact ⟨by simp, .inr ⟨h1', by simp⟩⟩
    · right; exact ⟨by simp [h1, h2], h1', by rw [bne_iff_ne]; omega⟩

set_option maxRecDepth 8000 in
set_option maxHeartbeats 2000000 in
theorem rparse_sep (s : ByteArray) (w : World) (hs : s.size = 26) (j : Nat) (hj : j < 26) (hn : sepAt s j = false) : Calls Try.prog 8 #[.string s] w fun e w' => NoParse e ∧ Below w.heap.size w w' := by
  have HN := Lib.hid hn
  clear hn
  go_enter Try.func8, Try.ntmps8
  go_wp2_with fail
  have kc := Go.Joins.run_convert_bytes_const_at (P := Try.prog) (w.alloc (.cells z7 23)) 42 5 maskV 26 26 (w.heap.size + 1) (by simp) Try.underlying42 Try.underlying5
  unfold z7 maskV at kc
  rw [kc]
  clear kc
  go_wp2_with fail
  have e0 : mw w = mw w := rfl
  conv at e0 => lhs; unfold mw z7 maskV
  rw [e0]
  clear e0
  have HC := Lib.hid (mw_cell w)
  have HZ := Lib.hid (mw_z7 w)
  have HB := Lib.hid (mw_below w)
  have HS := Lib.hid (mw_size w)
  generalize mw w = w0 at *
  go_loop [19] (fun i => ∃ k : Nat, k ≤ 26 ∧ i = .int .i64 k ∧ Hid (∀ q, q < k → sepAt s q = true)) (fun i => 26 - (intOf i).toNat)
  case atStart => exact ⟨0, by omega, rfl, Lib.hid fun q hq => by omega⟩
  case round =>
    obtain ⟨k, hk, rfl, hall⟩ := hrel
    have hkj : k ≤ j := by
      refine Nat.le_of_not_lt fun h => ?_
      have := hall.out j h
      rw [HN.out] at this; cases this
    have hlt : k < 26 := by omega
    have hc := HC.out k hlt
    rcases sep_ways s k (by omega) with ⟨h1, h2⟩ | ⟨h1, h2, h3⟩
    · have HA : Hid (∀ q, q < k + 1 → sepAt s q = true) := Lib.hid fun q hq => by
        by_cases e : q = k
        · subst e; exact h1
        · exact hall.out q (by omega)
      clear h1 hall
      generalize maskN k = c at *
      rcases h2 with h2 | ⟨h2, h3⟩
      all_goals
        go_wp2_with fail
        go_round
        case rel => exact ⟨k + 1, by omega, by go_num, HA⟩
        case measure => simp [intOf]; omega
    · clear h1 hall
      generalize maskN k = c at *
      have zc : ∀ j, w0.cell? ⟨w.heap.size, j, none⟩ = z7[j]? := fun j => cell_of_row _ _ j _ 23 (0, 0) HZ.out
      have g0 : w0.cell? ⟨w.heap.size, 0, none⟩ = some (.int .i64 0) := zc 0
      have g1 : w0.cell? ⟨w.heap.size, 1, none⟩ = some (.int .i64 0) := zc 1
      have g2 : w0.cell? ⟨w.heap.size, 2, none⟩ = some (.int .i64 0) := zc 2
      have g3 : w0.cell? ⟨w.heap.size, 3, none⟩ = some (.int .i64 0) := zc 3
      have g4 : w0.cell? ⟨w.heap.size, 4, none⟩ = some (.int .i64 0) := zc 4
      have g5 : w0.cell? ⟨w.heap.size, 5, none⟩ = some (.int .i64 0) := zc 5
      have g6 : w0.cell? ⟨w.heap.size, 6, none⟩ = some (.int .i64 0) := zc 6
      have k0 : w0.frozen? ⟨w.heap.size, 0, none⟩ = false := frozen_of_row _ _ _ _ _ HZ.out
      have k1 : w0.frozen? ⟨w.heap.size, 1, none⟩ = false := frozen_of_row _ _ _ _ _ HZ.out
      have k2 : w0.frozen? ⟨w.heap.size, 2, none⟩ = false := frozen_of_row _ _ _ _ _ HZ.out
      have k3 : w0.frozen? ⟨w.heap.size, 3, none⟩ = false := frozen_of_row _ _ _ _ _ HZ.out
      have k4 : w0.frozen? ⟨w.heap.size, 4, none⟩ = false := frozen_of_row _ _ _ _ _ HZ.out
      have k5 : w0.frozen? ⟨w.heap.size, 5, none⟩ = false := frozen_of_row _ _ _ _ _ HZ.out
      have k6 : w0.frozen? ⟨w.heap.size, 6, none⟩ = false := frozen_of_row _ _ _ _ _ HZ.out
      clear zc
      go_wp2_with fail
      have hfin := put7_row w0 w.heap.size 0 0 0 0 0 0 0 HZ.out
      refine bodyPost_ret (v := .tuple #[.agg (St7 0 0 0 0 0 0 0), .int .i64 9]) (parse_ret8 _ _ _ _ _ _ _ _ _ _ _ rfl rfl hfin) rfl ⟨rfl, ?_⟩
      exact put7_below _ _ _ _ _ _ _ _ HB.out (Nat.le_refl _)
end Go.Proofs.Ythcgdbmcpnmeeaa
