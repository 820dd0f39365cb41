/-
  The contract of the reference's digits.
-/
import Derived.Test.YthcgdbmcpnmeeaaDoorPrintP
import Derived.Test.YthcgdbmcpnmeeaaDoorRet
import Derived.Lib.SmallJoins
namespace Go.Proofs.YthcgdbmcpnmeeaaDoor
set_option linter.unusedVariables false
open Go.RowKit Go.Lib Go.Joins

theorem strOf_two (q r : Nat) (hq : q < 10) (hr : r < 10) : ([(48 + (q : Int)), (48 + (r : Int))] : List Int).foldl (fun b c => b.push (UInt8.ofNat c.toNat)) ByteArray.empty = ⟨#[dg q, dg r]⟩ := by
  have e1 : (48 + (q : Int)).toNat = 48 + q := by omega
  have e2 : (48 + (r : Int)).toNat = 48 + r := by omega
  simp only [List.foldl, e1, e2]
  rfl
theorem run_two (w : World) (q r : Nat) (hq : q < 10) (hr : r < 10) :
    (convert 48 9 (.slice (some ⟨w.heap.size, 0, none⟩) 2 2)).run Tryd.prog (w.alloc (.cells #[.int .u8 (48 + (q : Int)), .int .u8 (48 + (r : Int))] 5)) = .ok (.string ⟨#[dg q, dg r]⟩) (w.alloc (.cells #[.int .u8 (48 + (q : Int)), .int .u8 (48 + (r : Int))] 5)) := by
  have hc : ∀ j, (w.alloc (.cells #[.int .u8 (48 + (q : Int)), .int .u8 (48 + (r : Int))] 5)).cell? ⟨w.heap.size, j, none⟩ = (#[Value.int .u8 (48 + (q : Int)), .int .u8 (48 + (r : Int))] : Array Value)[j]? := fun j => cell_of_row _ _ j _ 5 (0, 0) (heap_alloc_new w _)
  rw [run_convert_bytes_string _ 48 9 5 _ 2 2 Tryd.underlying48 Tryd.underlying5 Tryd.underlying9,
    run_bytesToString _ ⟨w.heap.size, 0, none⟩ 2 2 [(48 + (q : Int)), (48 + (r : Int))] ?_]
  · exact congrArg (fun x => Result.ok (Value.string x) _) (strOf_two q r hq hr)
  · have := run_loadCells_list (P := Tryd.prog) (w.alloc (.cells #[.int .u8 (48 + (q : Int)), .int .u8 (48 + (r : Int))] 5)) ⟨w.heap.size, 0, none⟩ [.int .u8 (48 + (q : Int)), .int .u8 (48 + (r : Int))] (fun j v hj => by
      rw [Addr.add_lit, Nat.zero_add, hc]
      simpa using hj)
    rw [show ([.int .u8 (48 + (q : Int)), .int .u8 (48 + (r : Int))] : List Value).length = 2 from rfl] at this
    rw [this]
    simp

set_option maxHeartbeats 1000000 in
theorem digits_any (n : Nat) (w : World) (hn : n < 100) : Calls Tryd.prog 17 #[.int .i64 n] w fun e w' => e = .returned (.string ⟨#[dg (n / 10), dg (n % 10)]⟩) ∧ Below w.heap.size w w' := by
  obtain ⟨q, hq⟩ : ∃ q, q = n / 10 := ⟨_, rfl⟩
  obtain ⟨r, hr⟩ : ∃ r, r = n % 10 := ⟨_, rfl⟩
  have h1 : (n : Int).tdiv 10 = (q : Int) := by rw [Int.tdiv_eq_ediv_of_nonneg (by omega)]; omega
  have h2 : (n : Int).tmod 10 = (r : Int) := by rw [Int.tmod_eq_emod_of_nonneg (by omega)]; omega
  have h3 : (q : Int).tmod 10 = (q : Int) := by rw [Int.tmod_eq_emod_of_nonneg (by omega)]; omega
  have hq9 : q < 10 := by omega
  have hr9 : r < 10 := by omega
  rw [← hq, ← hr]
  have HQ := Lib.hid hq
  have HR := Lib.hid hr
  clear hq hr
  go_enter Tryd.func17, Tryd.ntmps17
  have hk := run_two w q r hq9 hr9
  go_wp2_with fail
  go_ret
  exact ⟨rfl, (Below.refl _ _).alloc (Nat.le_refl _) _⟩
end Go.Proofs.YthcgdbmcpnmeeaaDoor
