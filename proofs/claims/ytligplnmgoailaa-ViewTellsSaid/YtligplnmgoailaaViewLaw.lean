/-
  The walk of ViewNumbers.
-/
import Derived.Test.YtligplnmgoailaaViewAwake
import Derived.Test.YtligplnmgoailaaViewMath
import Derived.Test.YtligplnmgoailaaHelp
namespace Go.Proofs.Ytligplnmgoailaa
set_option linter.unusedVariables false
open Go.RowKit

theorem row_range (w : World) (x y : Int) (hx : 0 ≤ x ∧ x < 4294967296) (hy : 0 ≤ y ∧ y < 4294967296) : RowR (w.alloc (.cells #[.int .u32 x, .int .u32 y] 43)) (.slice (some ⟨w.heap.size, 0, none⟩) 1 1) [(x, y)] := by
  refine ⟨⟨_, _, rfl, Nat.le_refl _, by simp [maxLen], by simp, by simp, fun p hp j hj => ?_⟩, by intro p hp; simp at hp; subst hp; exact ⟨hx, hy⟩⟩
  obtain rfl := Option.some.inj hp
  rw [Addr.add_lit, Nat.zero_add, cell_of_row _ _ j _ 43 (0, 0) (heap_alloc_new w _)]
  have : j < 2 := hj
  have : j = 0 ∨ j = 1 := by omega
  rcases this with rfl | rfl <;> rfl

set_option maxRecDepth 8000 in
set_option maxHeartbeats 4000000 in
theorem viewNumbers_any (bx : ByteArray) (vl : Int) (rd : Bool) (v : Value) (fa : Option Addr) (fn fc : Nat) (l : List Int) (x : Int) (w : World) (hr : RowN w v l) (hlen : l.length ≤ 9223372036854775807) :
    Calls Try.prog 4 #[.agg (sightV bx vl rd v (.slice fa fn fc)), .int .u32 x] w fun e w' => e = .returned (.bool true) ∧ Below w.heap.size w w' := by
  have HR := Lib.hid hr
  obtain ⟨b, off, a, cap, rfl, hc, hm, ha, hcell⟩ := hr.shape
  have Ha := Lib.hid ha
  have Hc := Lib.hid hcell
  clear ha hcell hr
  unfold sightV
  go_enter Try.func4, Try.ntmps4
  go_wp2_with fail
  have HP0 : Hid (SgRow (w.alloc (.cells #[.string bx, .int .u32 vl, .bool rd, .slice a l.length cap, .slice fa fn fc] 29)) w.heap.size (.string bx) (.int .u32 vl) (.bool rd) (.slice a l.length cap) (.slice fa fn fc)) := Lib.hid (heap_alloc_new w _)
  have HB0 := Lib.hid ((Below.refl w.heap.size w).alloc (Nat.le_refl _) (.cells #[.string bx, .int .u32 vl, .bool rd, .slice a l.length cap, .slice fa fn fc] 29))
  have hw0 : w.heap.size < (w.alloc (.cells #[.string bx, .int .u32 vl, .bool rd, .slice a l.length cap, .slice fa fn fc] 29)).heap.size := by simp
  generalize w.alloc (.cells #[.string bx, .int .u32 vl, .bool rd, .slice a l.length cap, .slice fa fn fc] 29) = w0 at *
  refine (awake_any _).mono ?_
  rintro e w1 ⟨rfl, hb1⟩
  have HP1 := Lib.hid (HP0.out.below hb1 hw0)
  have HB1 := Lib.hid (HB0.out.trans (hb1.mono (Nat.le_of_lt hw0)))
  have hw1 : w.heap.size < w1.heap.size := by have := hb1.size; omega
  have HR1 := Lib.hid (HR.out.below HB1.out)
  clear hb1 HP0 HB0
  obtain ⟨d0, d1, d2, d3, d4⟩ := HP1.out.cells
  go_wp2_with fail
  refine (right_any _ _ _ _ _ _ _ l _ HR1.out hlen).mono ?_
  rintro e w2 ⟨hi, hb2⟩
  have HP2 := Lib.hid (HP1.out.below hb2 hw1)
  have HB2 := Lib.hid (HB1.out.trans (hb2.mono (Nat.le_of_lt hw1)))
  have hw2 : w.heap.size < w2.heap.size := by have := hb2.size; omega
  have HR2 := Lib.hid (HR1.out.below hb2)
  clear hb2 HP1 HB1 HR1 d0 d1 d2 d3 d4
  obtain ⟨d0, d1, d2, d3, d4⟩ := HP2.out.cells
  rcases hi with ⟨hu, rfl⟩ | ⟨hu, rfl⟩
  case inr =>
    clear hu
    go_wp2_with fail
    refine (awake_any _).mono ?_
    rintro e w3 ⟨rfl, hb3⟩
    have HB3 := Lib.hid (HB2.out.trans (hb3.mono (Nat.le_of_lt hw2)))
    clear hb3
    go_wp2_with fail
    go_ret
    exact ⟨rfl, HB3.out⟩
  case inl =>
    have HU := Lib.hid hu.1
    clear hu
    by_cases h300 : 300 < l.length
    · have ht : decide (300 < (l.length : Int)) = true := by simp; omega
      go_wp2_with fail
      refine (awake_any _).mono ?_
      rintro e w3 ⟨rfl, hb3⟩
      have HB3 := Lib.hid (HB2.out.trans (hb3.mono (Nat.le_of_lt hw2)))
      clear hb3
      go_wp2_with fail
      go_ret
      exact ⟨rfl, HB3.out⟩
    · have ht : decide (300 < (l.length : Int)) = false := by simp; omega
      go_wp2_with fail
      have hal := (Below.refl w2.heap.size w2).alloc (Nat.le_refl _) (.cells #[.int .u32 1, .int .u32 0] 43)
      have HP3 := Lib.hid (HP2.out.below hal hw2)
      have HR3 := Lib.hid (HR2.out.below hal)
      have HS3 := Lib.hid (row_range w2 1 0 (by omega) (by omega))
      have HB3 := Lib.hid (HB2.out.trans (hal.mono (Nat.le_of_lt hw2)))
      have HBD := Lib.hid HR.out.2
      have HN1 := Lib.hid (numL_all l)
      have HN2 := Lib.hid (pickL_all l HU.out HR.out.2)
      have hw3 : w.heap.size < (w2.alloc (.cells #[.int .u32 1, .int .u32 0] 43)).heap.size := by simp; omega
      have hg : w2.heap.size = w2.heap.size := rfl
      generalize hgd : w2.heap.size = g2 at HS3 hg ⊢
      generalize w2.alloc (.cells #[.int .u32 1, .int .u32 0] 43) = w3 at *
      clear hal HP2 HR2 HB2 d0 d1 d2 d3 d4 hgd hg
      obtain ⟨d0, d1, d2, d3, d4⟩ := HP3.out.cells
      go_cut [40] (fun b wx => b = .bool false ∧ Below w3.heap.size w3 wx)
      case first =>
        go_region_held3 (fun w' => w'.cell? ⟨w.heap.size, 0, none⟩ = some (.string bx) ∧ w'.cell? ⟨w.heap.size, 1, none⟩ = some (.int .u32 vl) ∧ w'.cell? ⟨w.heap.size, 2, none⟩ = some (.bool rd) ∧ w'.cell? ⟨w.heap.size, 3, none⟩ = some (.slice a l.length cap) ∧ w'.cell? ⟨w.heap.size, 4, none⟩ = some (.slice fa fn fc))
          (first | with_reducible exact kb | go_keep)
          (first
            | (go_at_call 17; refine (uidsT_any _ _ _ _ _ _ [(1, 0)] l _ (HS3.out.below HB5.out) (HR3.out.below HB5.out) (by decide) (by omega)).mono ?_; rintro e w6 ⟨o6, rfl, ho6, hb6⟩; rw [HN2.out] at ho6; have HO6 := Lib.hid (ho6.row HBD.out); obtain ⟨oa6, oc6, rfl, _⟩ := owns_shape ho6; have HB6 := Lib.hid (HB5.out.trans (hb6.mono HB5.out.size)); have kb := (HP3.out.below HB6.out hw3).cells; clear ho6 hb6)
            | (go_at_call 17; refine (uidsF_any _ _ _ _ _ _ [(1, 0)] l _ (HS3.out.below ((Below.refl _ _).drew)) (HR3.out.below ((Below.refl _ _).drew)) (by decide) (by omega)).mono ?_; rintro e w4 ⟨o4, rfl, ho4, hb4⟩; rw [HN1.out] at ho4; have HO4 := Lib.hid (ho4.row HBD.out); obtain ⟨oa4, oc4, rfl, _⟩ := owns_shape ho4; have HB4 : Hid (Below w3.heap.size w3 w4) := Lib.hid ((Below.refl _ _).drew.trans hb4); have kb := (HP3.out.below HB4.out hw3).cells; clear ho4 hb4)
            | (go_at_call 16; refine (plainN_any HO6.out (HR3.out.below HB6.out)).mono ?_; rintro e w7 ⟨rfl, hb7⟩; rw [decide_eq_true (rfl : l = l)]; have HB7 := Lib.hid (HB6.out.trans (hb7.mono HB6.out.size)); have kb := (HP3.out.below HB7.out hw3).cells; clear hb7)
            | (go_at_call 16; refine (plainN_any HO4.out (HR3.out.below HB4.out)).mono ?_; rintro e w5 ⟨rfl, hb5⟩; rw [decide_eq_true (rfl : l = l)]; have HB5 := Lib.hid (HB4.out.trans (hb5.mono HB4.out.size)); have kb := (HP3.out.below HB5.out hw3).cells; clear hb5))
        all_goals
          go_wp2_with fail
          go_meet
          exact ⟨rfl, HB7.out⟩
      case rest =>
        obtain ⟨hb, hbel⟩ := hcut
        subst hb
        have HP4 := Lib.hid (HP3.out.below hbel hw3)
        have HR4 := Lib.hid (HR3.out.below hbel)
        have HB4 := Lib.hid (HB3.out.trans (hbel.mono (Nat.le_of_lt hw3)))
        have hw4 : w.heap.size < wc.heap.size := by have := hbel.size; omega
        clear hbel HP3 HR3 HB3 HS3 HN1 HN2 d0 d1 d2 d3 d4
        obtain ⟨d0, d1, d2, d3, d4⟩ := HP4.out.cells
        go_wp2_with fail
        refine (number_any _ _ _ _ _ l x _ HR4.out hlen).mono ?_
        rintro e w5 ⟨⟨r, rfl, hi⟩, hb5⟩
        have HP5 := Lib.hid (HP4.out.below hb5 hw4)
        have HR5 := Lib.hid (HR4.out.below hb5)
        have HB5 := Lib.hid (HB4.out.trans (hb5.mono (Nat.le_of_lt hw4)))
        have hw5 : w.heap.size < w5.heap.size := by have := hb5.size; omega
        clear hb5 HP4 HR4 HB4 d0 d1 d2 d3 d4
        obtain ⟨d0, d1, d2, d3, d4⟩ := HP5.out.cells
        rcases hi with ⟨rfl, hno⟩ | ⟨k, rfl, hk, hx⟩
        · have HN : Hid (¬ x ∈ l) := Lib.hid (by
            intro h
            obtain ⟨i, hi, e⟩ := List.getElem_of_mem h
            exact hno i hi e)
          clear hno
          rw [show (-1 : Int) + 1 = 0 from rfl]
          go_wp2_with fail
          refine (in_any _ l x _ HR5.out hlen).mono ?_
          rintro e w6 ⟨rfl, hb6⟩
          have HB6 := Lib.hid (HB5.out.trans (hb6.mono (Nat.le_of_lt hw5)))
          clear hb6
          rw [decide_eq_false HN.out]
          go_wp2_with fail
          go_ret
          exact ⟨rfl, HB6.out⟩
        · have HX := Lib.hid hx
          clear hx
          have e0 : (((k : Int) + 1) == 0) = false := by rw [beq_eq_false_iff_ne]; omega
          have e1 : IntKind.u32.wrap ((k : Int) + 1) = (k : Int) + 1 := IntWalk.u32_in _ (by omega)
          go_wp2_with fail
          have hal := (Below.refl w5.heap.size w5).alloc (Nat.le_refl _) (.cells #[.int .u32 ((k : Int) + 1), .int .u32 ((k : Int) + 1)] 43)
          have HP6 := Lib.hid (HP5.out.below hal hw5)
          have HR6 := Lib.hid (HR5.out.below hal)
          have HS6 := Lib.hid (row_range w5 ((k : Int) + 1) ((k : Int) + 1) (by omega) (by omega))
          have HB6 := Lib.hid (HB5.out.trans (hal.mono (Nat.le_of_lt hw5)))
          have hw6 : w.heap.size < (w5.alloc (.cells #[.int .u32 ((k : Int) + 1), .int .u32 ((k : Int) + 1)] 43)).heap.size := by simp; omega
          refine (uidsF_any _ _ _ _ _ _ [((k : Int) + 1, (k : Int) + 1)] l _ HS6.out HR6.out (by simp) (by omega)).mono ?_
          rintro e w7 ⟨o7, rfl, ho7, hb7⟩
          rw [numL_one l k hk, HX.out] at ho7
          have HB7 := Lib.hid (HB6.out.trans (hb7.mono (Nat.le_of_lt hw6)))
          have HP7 := HP6.out.below hb7 hw6
          have HR7 := HR6.out.below hb7
          obtain ⟨g, cap7, cur, rfl, hg, hh, hn, hm, hx⟩ := ho7.2.resolve_left (by rintro ⟨_, h⟩; cases h)
          have q0 : w7.cell? ⟨g, 0, none⟩ = some (.int .u32 x) := World.ownsRow.cellAt ho7 0 (by simp)
          obtain ⟨b7, off7, a7, c7, hv7, _, _, ha7, hcell7⟩ := HR7.shape
          obtain ⟨hA7, _⟩ := ha7 (by omega)
          simp only [Value.slice.injEq] at hv7
          obtain ⟨rfl, _, rfl⟩ := hv7
          subst hA7
          have q1 := hcell7 k hk
          rw [HX.out] at q1
          obtain ⟨z0, z1, z2, z3, z4⟩ := HP7.cells
          have ex : (x == x) = true := by simp
          have e2 : (((1 : Nat) : Int) == 1) = true := by decide
          have hl1 : ([x] : List Int).length = 1 := rfl
          rw [hl1] at *
          have hk0 : ((k : Int) + 1 - 1) = (k : Int) := by omega
          clear ha7 hcell7 HP7 HR7 ho7 hb7 hal hh hx d0 d1 d2 d3 d4
          go_wp2_with fail
          go_ret
          exact ⟨rfl, HB7.out⟩
end Go.Proofs.Ytligplnmgoailaa
