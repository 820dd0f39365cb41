/-
  Less, of any two things.
-/
import Derived.Test.YthmnbjdmbajhkaaCmp
import Derived.Test.YthmnbjdmbajhkaaPut
import Derived.Deep.RegionHeld3
import Derived.BigQuiet
import Derived.Deep.QuietTactic
namespace Go.Proofs.Ythmnbjdmbajhkaa
set_option linter.unusedVariables false
open Go.RowKit
attribute [local go_sem] Oper.semAt_some

/-- a thing on the shelf -/
structure Th where
  blk : Nat
  v : Int
  u : Int
  size : Int
  used : Int
def thC (x : Th) (pl : Int) : Array Value := #[.int .u32 x.v, .int .u32 x.u, .int .i64 x.size, .int .i64 x.used, .int .i64 pl]
/-- does one go ahead of another? -/
def ltB (a b : Th) : Bool := decide (orI (cmpI a.used b.used) (cmpI a.v b.v) (cmpI a.u b.u) < 0)

theorem thC_at {w : World} {x : Th} {pl : Int} (h : At w x.blk (.cells (thC x pl) 60 (0, 0))) : w.cell? ⟨x.blk, 0, none⟩ = some (.int .u32 x.v) ∧ w.cell? ⟨x.blk, 1, none⟩ = some (.int .u32 x.u) ∧ w.cell? ⟨x.blk, 2, none⟩ = some (.int .i64 x.size) ∧ w.cell? ⟨x.blk, 3, none⟩ = some (.int .i64 x.used) ∧ w.cell? ⟨x.blk, 4, none⟩ = some (.int .i64 pl) ∧ w.frozen? ⟨x.blk, 4, none⟩ = false ∧ w.frozen? ⟨x.blk, 3, none⟩ = false :=
  ⟨h.cell 0 _ rfl, h.cell 1 _ rfl, h.cell 2 _ rfl, h.cell 3 _ rfl, h.cell 4 _ rfl, h.froz 4, h.froz 3⟩

set_option maxRecDepth 100000 in
set_option maxHeartbeats 4000000 in
theorem less_any (og n cap i j : Nat) (a b : Th) (pa pb : Int) (w : World) (hi : i < n) (hj : j < n) (hn : n ≤ 1000000)
    (ci : w.cell? ⟨og, i, none⟩ = some (.pointer (some ⟨a.blk, 0, none⟩))) (cj : w.cell? ⟨og, j, none⟩ = some (.pointer (some ⟨b.blk, 0, none⟩)))
    (ha : At w a.blk (.cells (thC a pa) 60 (0, 0))) (hb : At w b.blk (.cells (thC b pb) 60 (0, 0))) :
    Calls Try.prog 49 #[.slice (some ⟨og, 0, none⟩) n cap, .int .i64 i, .int .i64 j] w fun e w' => e = .returned (.bool (ltB a b)) ∧ Below w.heap.size w w' := by
  obtain ⟨a0, a1, -, a3, -⟩ := thC_at ha
  obtain ⟨b0, b1, -, b3, -⟩ := thC_at hb
  have hii : (i : Int) < (n : Int) := by omega
  have hji : (j : Int) < (n : Int) := by omega
  have hal := ha.lt
  have hbl := hb.lt
  have HL : Hid (ltB a b = decide (orI (cmpI a.used b.used) (cmpI a.v b.v) (cmpI a.u b.u) < 0)) := Lib.hid rfl
  have HC := Lib.hid (fun x y W => cmpi_any x y W)
  have HU := Lib.hid (fun x y W => cmpu_any x y W)
  clear ha hb
  obtain ⟨ab, av, au, asz, aus⟩ := a
  obtain ⟨bb, bv, bu, bsz, bus⟩ := b
  simp only at a0 a1 a3 b0 b1 b3 hal hbl ci cj HL ⊢
  go_enter Try.func49, Try.ntmps49
  go_wp2_with fail
  go_quiet (fail)
  go_wp2_with fail
  have hbd : Below w.heap.size w (w.drewN nq) := below_drewN (Below.refl _ _) nq
  have hs : (w.drewN nq).heap.size = w.heap.size := rfl
  have hS : ((w.drewN nq).cell? ⟨ab, 0, none⟩ = some (.int .u32 av) ∧ (w.drewN nq).cell? ⟨ab, 1, none⟩ = some (.int .u32 au) ∧ (w.drewN nq).cell? ⟨ab, 3, none⟩ = some (.int .i64 aus)) ∧ (w.drewN nq).cell? ⟨bb, 0, none⟩ = some (.int .u32 bv) ∧ (w.drewN nq).cell? ⟨bb, 1, none⟩ = some (.int .u32 bu) ∧ (w.drewN nq).cell? ⟨bb, 3, none⟩ = some (.int .i64 bus) := ⟨⟨a0, a1, a3⟩, b0, b1, b3⟩
  rw [← hs] at hal hbl
  have HBD := Lib.hid hbd
  clear hbd hs a0 a1 a3 b0 b1 b3
  generalize w.drewN nq = wd at *
  obtain ⟨⟨a0, a1, a3⟩, b0, b1, b3⟩ := hS
  have HF := Lib.hid (fun g x y z W => or_any g x y z W)
  generalize hx : cmpI aus bus = x at *
  generalize hy : cmpI av bv = y at *
  generalize hz : cmpI au bu = z at *
  have HX := Lib.hid hx
  have HY := Lib.hid hy
  have HZ := Lib.hid hz
  have HC1 : Hid (∀ W, Calls Try.prog 52 #[.int .i64 aus, .int .i64 bus] W fun e w' => e = .returned (.int .i64 x) ∧ W = w') := Lib.hid (fun W => by rw [← hx]; exact cmpi_any _ _ W)
  have HU1 : Hid (∀ W, Calls Try.prog 53 #[.int .u32 av, .int .u32 bv] W fun e w' => e = .returned (.int .i64 y) ∧ W = w') := Lib.hid (fun W => by rw [← hy]; exact cmpu_any _ _ W)
  have HU2 : Hid (∀ W, Calls Try.prog 53 #[.int .u32 au, .int .u32 bu] W fun e w' => e = .returned (.int .i64 z) ∧ W = w') := Lib.hid (fun W => by rw [← hz]; exact cmpu_any _ _ W)
  clear hx hy hz HC HU
  go_region_held3 (fun w' => (w'.cell? ⟨ab, 0, none⟩ = some (.int .u32 av) ∧ w'.cell? ⟨ab, 1, none⟩ = some (.int .u32 au) ∧ w'.cell? ⟨ab, 3, none⟩ = some (.int .i64 aus)) ∧ w'.cell? ⟨bb, 0, none⟩ = some (.int .u32 bv) ∧ w'.cell? ⟨bb, 1, none⟩ = some (.int .u32 bu) ∧ w'.cell? ⟨bb, 3, none⟩ = some (.int .i64 bus))
    (first | with_reducible exact ⟨⟨a0, a1, a3⟩, b0, b1, b3⟩ | go_keep)
    (first
      | (go_at_call 52; refine (HC1.out _).mono ?_; rintro e w2 ⟨rfl, rfl⟩)
      | (go_at_call 53; with_reducible refine (HU1.out _).mono ?_; rintro e w2 ⟨rfl, rfl⟩)
      | (go_at_call 53; with_reducible refine (HU2.out _).mono ?_; rintro e w2 ⟨rfl, rfl⟩)
      | (go_at_call 51; refine (HF.out wd.heap.size x y z _ (by simp) (by simp) (by simp)).mono ?_; rintro e w2 ⟨rfl, rfl⟩))
  go_wp2_with fail
  go_ret
  exact ⟨ret_eq (by rw [HL.out]; rfl), HBD.out.drew.alloc (by have := HBD.out.size; exact this) _⟩
end Go.Proofs.Ythmnbjdmbajhkaa
