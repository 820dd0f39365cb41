/-
  The contracts of strings.Cut at one byte, and of number, one and Parse at the texts that awake takes.
-/
import Derived.Test.YtfcdannlfifbgaaOf
import Derived.Test.YtfcdannlfifbgaaHas
import Derived.Lib.Bytealg
import Derived.Laws.ResultCell
namespace Go.Proofs.Ytfcdannlfifbgaa
set_option linter.unusedVariables false
open Go.RowKit

theorem indexByte_any (s : ByteArray) (c : Int) (w : World) :
    Calls Try.prog 27 #[.string s, .int .u8 c] w fun e w' => e = .returned (.int .i64 (Lib.indexByte s.data.toList c.toNat.toUInt8)) ∧ w' = w := by
  go_enter Try.func27, Try.ntmps27
  go_wp2_with fail
  rw [run_callFunc_extern Try.func31 (by kernel_rfl) (by kernel_rfl) (by kernel_rfl) (e := Extern.BytealgIndexByte.indexByte) (by kernel_rfl), Lib.run_indexByteString]
  simp only [Result.andThen]
  rw [Oper.upon_value]
  go_wp2_with fail
  go_ret
  exact ⟨rfl, rfl⟩

theorem index_one (s : ByteArray) (c : UInt8) (w : World) (hne : ([c] == s.toList) = false) :
    Calls Try.prog 26 #[.string s, .string ⟨#[c]⟩] w fun e w' => e = .returned (.int .i64 (Lib.indexByte s.data.toList c)) ∧ w' = w := by
  go_enter Try.func26, Try.ntmps26
  go_wp2_with (go_at_call 27; refine (indexByte_any _ _ _).mono ?_; rintro e w' ⟨rfl, rfl⟩)
  go_ret
  exact ⟨rfl, rfl⟩

theorem cut_yes (s : ByteArray) (c : UInt8) (k : Nat) (w : World) (hne : ([c] == s.toList) = false) (hk : Lib.indexByte s.data.toList c = (k : Int)) (hs : k + 1 ≤ s.size) (hm : s.size ≤ 1000) :
    Calls Try.prog 22 #[.string s, .string ⟨#[c]⟩] w fun e w' => e = .returned (.tuple #[.string (s.extract 0 k), .string (s.extract (k + 1) s.size), .bool true]) ∧ Below w.heap.size w w' := by
  have HK := Lib.hid hk
  clear hk
  have h24 : Calls Try.prog 24 #[.string s, .string ⟨#[c]⟩] w fun e w' => e = .returned (.tuple #[.string (s.extract 0 k), .string (s.extract (k + 1) s.size), .bool true]) ∧ Below w.heap.size w w' := by
    have hw : IntKind.i64.wrap ((k : Int) + 1) = (k : Int) + 1 := IntWalk.i64_in _ (by omega)
    have h1 : ((k : Int) + 1).toNat = k + 1 := by omega
    have h2 : 0 ≤ (k : Int) + 1 := by omega
    go_enter Try.func24, Try.ntmps24
    go_wp2_with (go_at_call 26; refine (index_one _ _ _ hne).mono ?_; rintro e w' ⟨rfl, rfl⟩; rw [HK.out])
    go_quiet (fail)
    go_wp2_with fail
    exact bodyPost_ret (v := .tuple #[.string (s.extract 0 k), .string (s.extract (k + 1) s.size), .bool true]) (by simp [results, Try.results24, go_sem]) rfl ⟨rfl, below_drewN (Below.refl _ _) _⟩
  go_enter Try.func22, Try.ntmps22
  go_wp2_with (go_at_call 24; refine h24.mono ?_; rintro e w' ⟨rfl, hb⟩)
  exact bodyPost_ret (v := .tuple #[.string (s.extract 0 k), .string (s.extract (k + 1) s.size), .bool true]) (by simp [results, Try.results22, go_sem]) rfl ⟨rfl, hb⟩

theorem number_star (w : World) : Calls Try.prog 25 #[.string ⟨#[42]⟩] w fun e w' => e = .returned (.tuple #[.int .u32 0, .bool true]) ∧ Below w.heap.size w w' := by
  go_enter Try.func25, Try.ntmps25
  go_wp2_with fail
  exact bodyPost_ret (v := .tuple #[.int .u32 0, .bool true]) (by simp [results, Try.results25, go_sem]) rfl ⟨rfl, Below.refl _ _⟩

theorem iter_below (w : World) (s : ByteArray) (k : Nat) : Below w.heap.size w (w.iter s k) := (Below.refl _ _).alloc (Nat.le_refl _) _
theorem number_4 (w : World) : Calls Try.prog 25 #[.string ⟨#[52]⟩] w fun e w' => e = .returned (.tuple #[.int .u32 4, .bool true]) ∧ Below w.heap.size w w' := by
  have kn0 := run_next_ascii (P := Try.prog) w ⟨#[52]⟩ 0 0 (by decide) (by decide)
  have kn1 := run_next_end (P := Try.prog) w ⟨#[52]⟩ 1 0 (by decide)
  simp only [show (((⟨#[52]⟩ : ByteArray)[0]'(by decide)).toNat : Int) = 52 from rfl] at kn0
  have h48 : ((((⟨#[52]⟩ : ByteArray)[0]'(by decide)).toNat : Int) == 48) = false := rfl
  go_enter Try.func25, Try.ntmps25
  go_wp2_with fail
  refine wp_loop_rounds 2 ?_
  rw [rounds_succ]
  go_wp2_with fail
  rw [rounds_succ]
  go_wp2_with fail
  exact bodyPost_ret (v := .tuple #[.int .u32 4, .bool true]) (by simp [results, Try.results25, go_sem]) rfl ⟨rfl, iter_below _ _ _⟩
theorem number_2 (w : World) : Calls Try.prog 25 #[.string ⟨#[50]⟩] w fun e w' => e = .returned (.tuple #[.int .u32 2, .bool true]) ∧ Below w.heap.size w w' := by
  have kn0 := run_next_ascii (P := Try.prog) w ⟨#[50]⟩ 0 0 (by decide) (by decide)
  have kn1 := run_next_end (P := Try.prog) w ⟨#[50]⟩ 1 0 (by decide)
  simp only [show (((⟨#[50]⟩ : ByteArray)[0]'(by decide)).toNat : Int) = 50 from rfl] at kn0
  have h48 : ((((⟨#[50]⟩ : ByteArray)[0]'(by decide)).toNat : Int) == 48) = false := rfl
  go_enter Try.func25, Try.ntmps25
  go_wp2_with fail
  refine wp_loop_rounds 2 ?_
  rw [rounds_succ]
  go_wp2_with fail
  rw [rounds_succ]
  go_wp2_with fail
  exact bodyPost_ret (v := .tuple #[.int .u32 2, .bool true]) (by simp [results, Try.results25, go_sem]) rfl ⟨rfl, iter_below _ _ _⟩

/-- a text without the sign -/
theorem cut_no (s : ByteArray) (c : UInt8) (w : World) (hne : ([c] == s.toList) = false) (hk : Lib.indexByte s.data.toList c = -1) :
    Calls Try.prog 22 #[.string s, .string ⟨#[c]⟩] w fun e w' => e = .returned (.tuple #[.string s, .string ⟨#[]⟩, .bool false]) ∧ Below w.heap.size w w' := by
  have HK := Lib.hid hk
  clear hk
  have h24 : Calls Try.prog 24 #[.string s, .string ⟨#[c]⟩] w fun e w' => e = .returned (.tuple #[.string s, .string ⟨#[]⟩, .bool false]) ∧ Below w.heap.size w w' := by
    go_enter Try.func24, Try.ntmps24
    go_wp2_with (go_at_call 26; refine (index_one _ _ _ hne).mono ?_; rintro e w' ⟨rfl, rfl⟩; rw [HK.out])
    exact bodyPost_ret (v := .tuple #[.string s, .string ⟨#[]⟩, .bool false]) (by simp [results, Try.results24, go_sem]) rfl ⟨rfl, Below.refl _ _⟩
  go_enter Try.func22, Try.ntmps22
  go_wp2_with (go_at_call 24; refine h24.mono ?_; rintro e w' ⟨rfl, hb⟩)
  exact bodyPost_ret (v := .tuple #[.string s, .string ⟨#[]⟩, .bool false]) (by simp [results, Try.results22, go_sem]) rfl ⟨rfl, hb⟩

theorem cut_a (w : World) : Calls Try.prog 22 #[.string ⟨#[52, 58, 50, 44, 42]⟩, .string ⟨#[44]⟩] w fun e w' => e = .returned (.tuple #[.string ⟨#[52, 58, 50]⟩, .string ⟨#[42]⟩, .bool true]) ∧ Below w.heap.size w w' := by
  have := cut_yes ⟨#[52, 58, 50, 44, 42]⟩ 44 3 w (by decide +kernel) (by decide +kernel) (by decide) (by decide)
  rwa [show (⟨#[52, 58, 50, 44, 42]⟩ : ByteArray).extract 0 3 = ⟨#[52, 58, 50]⟩ by decide +kernel, show (⟨#[52, 58, 50, 44, 42]⟩ : ByteArray).extract (3 + 1) (⟨#[52, 58, 50, 44, 42]⟩ : ByteArray).size = ⟨#[42]⟩ by decide +kernel] at this
theorem cut_b (w : World) : Calls Try.prog 22 #[.string ⟨#[52, 58, 50]⟩, .string ⟨#[58]⟩] w fun e w' => e = .returned (.tuple #[.string ⟨#[52]⟩, .string ⟨#[50]⟩, .bool true]) ∧ Below w.heap.size w w' := by
  have := cut_yes ⟨#[52, 58, 50]⟩ 58 1 w (by decide +kernel) (by decide +kernel) (by decide) (by decide)
  rwa [show (⟨#[52, 58, 50]⟩ : ByteArray).extract 0 1 = ⟨#[52]⟩ by decide +kernel, show (⟨#[52, 58, 50]⟩ : ByteArray).extract (1 + 1) (⟨#[52, 58, 50]⟩ : ByteArray).size = ⟨#[50]⟩ by decide +kernel] at this
theorem cut_c (c : UInt8) (hc : c = 44 ∨ c = 58) (w : World) : Calls Try.prog 22 #[.string ⟨#[42]⟩, .string ⟨#[c]⟩] w fun e w' => e = .returned (.tuple #[.string ⟨#[42]⟩, .string ⟨#[]⟩, .bool false]) ∧ Below w.heap.size w w' := by
  rcases hc with rfl | rfl
  · exact cut_no ⟨#[42]⟩ 44 w (by decide +kernel) (by decide +kernel)
  · exact cut_no ⟨#[42]⟩ 58 w (by decide +kernel) (by decide +kernel)

theorem one_ret (tmps : Array Value) (w : World) (b : Nat) (x y : Int) (v : Value) (hp : tmps.getD 2 undef = .pointer (some ⟨b, 0, none⟩)) (hv : tmps.getD 3 undef = v) (hg : w.heap[b]? = some (.cells #[.int .u32 x, .int .u32 y] 33 (0, 0))) :
    (results Try.f23 tmps).run Try.prog w = .ok (.tuple #[.agg #[.int .u32 x, .int .u32 y], v]) w := by
  rw [results_cell_tmp (fn := Try.f23) (p := 2) (u := 3) (ty := 33) rfl, hp]
  have hl := run_loadVar_row (P := Try.prog) w b 33 33 #[.int .u32 x, .int .u32 y] (0, 0) _ hg Try.underlying33 rfl (by kernel_rfl)
  simp only [asAddr]
  show Result.andThen ((loadVar 33 ⟨b, 0, none⟩).run Try.prog w) _ = _
  rw [hl]
  show Result.ok _ _ = _
  rw [hv]
/-- an empty range's block -/
structure Z2At (w : World) (b : Nat) : Prop where
  row : Hid (w.heap[b]? = some (.cells #[.int .u32 0, .int .u32 0] 33 (0, 0)))
  y0 : w.cell? ⟨b, 0, none⟩ = some (.int .u32 0)
  y1 : w.cell? ⟨b, 1, none⟩ = some (.int .u32 0)
  x0 : w.frozen? ⟨b, 0, none⟩ = false
  x1 : w.frozen? ⟨b, 1, none⟩ = false
theorem Z2At.of {w : World} {b : Nat} (h : w.heap[b]? = some (.cells #[.int .u32 0, .int .u32 0] 33 (0, 0))) : Z2At w b := by
  have zc : ∀ i, w.cell? ⟨b, i, none⟩ = (#[Value.int .u32 0, .int .u32 0] : Array Value)[i]? := fun i => cell_of_row _ _ i _ 33 (0, 0) h
  have zf : ∀ i, w.frozen? ⟨b, i, none⟩ = false := fun i => frozen_of_row _ _ _ _ _ h
  exact ⟨Lib.hid h, zc 0, zc 1, zf 0, zf 1⟩
theorem put2_row (w : World) (b : Nat) (x y : Int) (hg : w.heap[b]? = some (.cells #[.int .u32 0, .int .u32 0] 33 (0, 0))) : ((w.setCell ⟨b, 0, none⟩ (.int .u32 x)).setCell ⟨b, 1, none⟩ (.int .u32 y)).heap[b]? = some (.cells #[.int .u32 x, .int .u32 y] 33 (0, 0)) := by
  have h0 := heap_setCell_same w b 0 _ _ (.int .u32 x) hg
  exact heap_setCell_same _ b 1 _ _ (.int .u32 y) h0

set_option maxHeartbeats 1000000 in
theorem one_a (w : World) : Calls Try.prog 23 #[.string ⟨#[52, 58, 50]⟩] w fun e w' => e = .returned (.tuple #[.agg #[.int .u32 4, .int .u32 2], .bool true]) ∧ Below w.heap.size w w' := by
  go_enter Try.func23, Try.ntmps23
  go_wp2_with fail
  refine (cut_b _).mono ?_
  rintro e w1 ⟨rfl, hb1⟩
  go_wp2_with fail
  refine (number_4 _).mono ?_
  rintro e w2 ⟨rfl, hb2⟩
  go_wp2_with fail
  refine (number_2 _).mono ?_
  rintro e w3 ⟨rfl, hb3⟩
  have hs1 := hb1.size
  have hs2 := hb2.size
  simp only [World.size_alloc] at hs1
  have hz : w3.heap[w.heap.size]? = some (.cells #[.int .u32 0, .int .u32 0] 33 (0, 0)) := by
    rw [hb3.block _ (by omega), hb2.block _ (by omega), hb1.block _ (by simp)]; exact heap_alloc_new w _
  obtain ⟨HZ, y0, y1, x0, x1⟩ := Z2At.of hz
  have HB := Lib.hid ((((Below.refl w.heap.size w).alloc (Nat.le_refl _) (.cells #[.int .u32 0, .int .u32 0] 33)).trans (hb1.mono (by simp))).trans ((hb2.mono (by omega)).trans (hb3.mono (by omega))))
  clear hz hb1 hb2 hb3
  go_wp2_with fail
  refine bodyPost_ret (v := .tuple #[.agg #[.int .u32 4, .int .u32 2], .bool true]) (one_ret _ _ _ _ _ _ rfl rfl (put2_row w3 w.heap.size 4 2 HZ.out)) rfl ⟨rfl, ?_⟩
  exact (HB.out.setCell (Nat.le_refl _) _).setCell (Nat.le_refl _) _

set_option maxHeartbeats 1000000 in
theorem one_b (w : World) : Calls Try.prog 23 #[.string ⟨#[42]⟩] w fun e w' => e = .returned (.tuple #[.agg #[.int .u32 0, .int .u32 0], .bool true]) ∧ Below w.heap.size w w' := by
  go_enter Try.func23, Try.ntmps23
  go_wp2_with fail
  refine (cut_c 58 (Or.inr rfl) _).mono ?_
  rintro e w1 ⟨rfl, hb1⟩
  go_wp2_with fail
  refine (number_star _).mono ?_
  rintro e w2 ⟨rfl, hb2⟩
  have hs1 := hb1.size
  simp only [World.size_alloc] at hs1
  have hz : w2.heap[w.heap.size]? = some (.cells #[.int .u32 0, .int .u32 0] 33 (0, 0)) := by
    rw [hb2.block _ (by omega), hb1.block _ (by simp)]; exact heap_alloc_new w _
  obtain ⟨HZ, y0, y1, x0, x1⟩ := Z2At.of hz
  have HB := Lib.hid ((((Below.refl w.heap.size w).alloc (Nat.le_refl _) (.cells #[.int .u32 0, .int .u32 0] 33)).trans (hb1.mono (by simp))).trans (hb2.mono (by omega)))
  clear hz hb1 hb2
  go_wp2_with fail
  refine bodyPost_ret (v := .tuple #[.agg #[.int .u32 0, .int .u32 0], .bool true]) (one_ret _ _ _ _ _ _ rfl rfl (put2_row w2 w.heap.size 0 0 HZ.out)) rfl ⟨rfl, ?_⟩
  exact (HB.out.setCell (Nat.le_refl _) _).setCell (Nat.le_refl _) _
end Go.Proofs.Ytfcdannlfifbgaa
