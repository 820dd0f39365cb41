/-
  The walk of StampZones.
-/
import Derived.Test.YthcgdbmcpnmeeaaAtLaw
import Derived.Test.YthcgdbmcpnmeeaaZMath
import Derived.Test.YthcgdbmcpnmeeaaOrder
namespace Go.Proofs.Ythcgdbmcpnmeeaa
set_option linter.unusedVariables false
open Go.RowKit

/-- a stamp in two zones, in the blocks that the call has made, and nothing that was there turned -/
structure DuoZ (w w' : World) (y mo d h mi s z zb : Int) : Prop where
  a : StAt w' w.heap.size y mo d h mi s z
  b : StAt w' (w.heap.size + 1) y mo d h mi s zb
  lt : w.heap.size + 1 < w'.heap.size
  bel : Below w.heap.size w w'
theorem DuoZ.next {w w1 w2 : World} {y mo d h mi s z zb : Int} (k : DuoZ w w1 y mo d h mi s z zb) (hb : Below w1.heap.size w1 w2) : DuoZ w w2 y mo d h mi s z zb :=
  ⟨k.a.below hb (by have := k.lt; omega), k.b.below hb k.lt, Nat.lt_of_lt_of_le k.lt hb.size, k.bel.trans (hb.mono (by have := k.lt; omega))⟩

theorem StAt.twoZ {w : World} (y mo d h mi s z zb : Int) : StAt ((w.alloc (.cells (St7 y mo d h mi s z) 23)).alloc (.cells (St7 y mo d h mi s zb) 23)) w.heap.size y mo d h mi s z ∧ StAt ((w.alloc (.cells (St7 y mo d h mi s z) 23)).alloc (.cells (St7 y mo d h mi s zb) 23)) (w.heap.size + 1) y mo d h mi s zb :=
  ⟨StAt.of_row (heap_alloc2_old w _ _), StAt.of_row (heap_alloc2_new w _ _)⟩

theorem StAt.seven {w : World} {b : Nat} {y mo d h mi s z : Int} (k : StAt w b y mo d h mi s z) : w.cell? ⟨b, 0, none⟩ = some (.int .i64 y) ∧ w.cell? ⟨b, 1, none⟩ = some (.int .i64 mo) ∧ w.cell? ⟨b, 2, none⟩ = some (.int .i64 d) ∧ w.cell? ⟨b, 3, none⟩ = some (.int .i64 h) ∧ w.cell? ⟨b, 4, none⟩ = some (.int .i64 mi) ∧ w.cell? ⟨b, 5, none⟩ = some (.int .i64 s) ∧ w.cell? ⟨b, 6, none⟩ = some (.int .i64 z) :=
  ⟨k.c0, k.c1, k.c2, k.c3, k.c4, k.c5, k.c6⟩

/-- the cells of an empty stamp's block, and that they may be written -/
structure Z7At (w : World) (b : Nat) : Prop where
  row : Hid (w.heap[b]? = some (.cells z7 23 (0, 0)))
  y0 : w.cell? ⟨b, 0, none⟩ = some (.int .i64 0)
  y1 : w.cell? ⟨b, 1, none⟩ = some (.int .i64 0)
  y2 : w.cell? ⟨b, 2, none⟩ = some (.int .i64 0)
  y3 : w.cell? ⟨b, 3, none⟩ = some (.int .i64 0)
  y4 : w.cell? ⟨b, 4, none⟩ = some (.int .i64 0)
  y5 : w.cell? ⟨b, 5, none⟩ = some (.int .i64 0)
  y6 : w.cell? ⟨b, 6, none⟩ = some (.int .i64 0)
  x0 : w.frozen? ⟨b, 0, none⟩ = false
  x1 : w.frozen? ⟨b, 1, none⟩ = false
  x2 : w.frozen? ⟨b, 2, none⟩ = false
  x3 : w.frozen? ⟨b, 3, none⟩ = false
  x4 : w.frozen? ⟨b, 4, none⟩ = false
  x5 : w.frozen? ⟨b, 5, none⟩ = false
  x6 : w.frozen? ⟨b, 6, none⟩ = false
theorem Z7At.of {w : World} {b : Nat} (h : w.heap[b]? = some (.cells z7 23 (0, 0))) : Z7At w b := by
  have zc : ∀ i, w.cell? ⟨b, i, none⟩ = z7[i]? := fun i => cell_of_row _ _ i _ 23 (0, 0) h
  have zf : ∀ i, w.frozen? ⟨b, i, none⟩ = false := fun i => frozen_of_row _ _ _ _ _ h
  exact ⟨Lib.hid h, zc 0, zc 1, zc 2, zc 3, zc 4, zc 5, zc 6, zf 0, zf 1, zf 2, zf 3, zf 4, zf 5, zf 6⟩

set_option maxRecDepth 8000 in
set_option maxHeartbeats 4000000 in
theorem zones_any (y mo d h mi s z zb : Int) (w : World) : Calls Try.prog 6 #[.agg #[.int .i64 y, .int .i64 mo, .int .i64 d, .int .i64 h, .int .i64 mi, .int .i64 s, .int .i64 z], .int .i64 zb] w fun e w' => e = .returned (.bool true) ∧ Below w.heap.size w w' := by
  have HT := Lib.hid (StAt.twoZ (w := w) y mo d h mi s z zb)
  go_enter Try.func6, Try.ntmps6
  go_wp2_with fail
  refine (awake_any _).mono ?_
  rintro e w1 ⟨rfl, hb⟩
  have D1 : DuoZ w w1 y mo d h mi s z zb := ⟨HT.out.1.below hb (by simp; omega), HT.out.2.below hb (by simp), by have := hb.size; simp at this; omega, (((Below.refl _ _).alloc (Nat.le_refl _) _).alloc (by simp) _).trans (hb.mono (by simp; omega))⟩
  have H1 := Lib.hid D1
  clear D1 hb HT
  by_cases ra : RightS y mo d h mi s z
  · have HA := Lib.hid ra
    clear ra
    obtain ⟨a0, a1, a2, a3, a4, a5, a6⟩ := H1.out.a
    go_wp2_with fail
    refine (rright_yes y mo d h mi s z _ HA.out).mono ?_
    rintro e w2 ⟨rfl, hb2⟩
    clear a0 a1 a2 a3 a4 a5 a6
    have H2 := Lib.hid (H1.out.next hb2)
    clear hb2
    by_cases rb : RightS y mo d h mi s zb
    · have HB := Lib.hid rb
      clear rb
      obtain ⟨b0, b1, b2, b3, b4, b5, b6⟩ := H2.out.b
      go_wp2_with fail
      refine (rright_yes y mo d h mi s zb _ HB.out).mono ?_
      rintro e w3 ⟨rfl, hb3⟩
      clear b0 b1 b2 b3 b4 b5 b6
      have H3 := Lib.hid (H2.out.next hb3)
      clear hb3
      obtain ⟨a0, a1, a2, a3, a4, a5, a6⟩ := H3.out.a
      obtain ⟨b0, b1, b2, b3, b4, b5, b6⟩ := H3.out.b
      go_wp2_with fail
      clear a0 a1 a2 a3 a4 a5 a6 b0 b1 b2 b3 b4 b5 b6
      go_cut [35] (fun b wx => b = .bool false ∧ DuoZ w wx y mo d h mi s z zb)
      case first =>
        obtain ⟨a0, a1, a2, a3, a4, a5, a6⟩ := H3.out.a
        obtain ⟨b0, b1, b2, b3, b4, b5, b6⟩ := H3.out.b
        go_region_held3 (fun w' => w'.cell? ⟨w.heap.size, 0, none⟩ = some (.int .i64 y) ∧ w'.cell? ⟨w.heap.size, 1, none⟩ = some (.int .i64 mo) ∧ w'.cell? ⟨w.heap.size, 2, none⟩ = some (.int .i64 d) ∧ w'.cell? ⟨w.heap.size, 3, none⟩ = some (.int .i64 h) ∧ w'.cell? ⟨w.heap.size, 4, none⟩ = some (.int .i64 mi) ∧ w'.cell? ⟨w.heap.size, 5, none⟩ = some (.int .i64 s) ∧ w'.cell? ⟨w.heap.size, 6, none⟩ = some (.int .i64 z) ∧ w'.cell? ⟨w.heap.size + 1, 0, none⟩ = some (.int .i64 y) ∧ w'.cell? ⟨w.heap.size + 1, 1, none⟩ = some (.int .i64 mo) ∧ w'.cell? ⟨w.heap.size + 1, 2, none⟩ = some (.int .i64 d) ∧ w'.cell? ⟨w.heap.size + 1, 3, none⟩ = some (.int .i64 h) ∧ w'.cell? ⟨w.heap.size + 1, 4, none⟩ = some (.int .i64 mi) ∧ w'.cell? ⟨w.heap.size + 1, 5, none⟩ = some (.int .i64 s) ∧ w'.cell? ⟨w.heap.size + 1, 6, none⟩ = some (.int .i64 zb))
          (first | with_reducible exact kb | exact ⟨a0, a1, a2, a3, a4, a5, a6, b0, b1, b2, b3, b4, b5, b6⟩ | go_keep)
          ((go_at_call 14; refine (seconds_any _ _ _ _ _ _ _ _ (by first | exact HA.out | exact HB.out)).mono ?_; rintro e wn ⟨rfl, hb⟩; have HK : Hid (DuoZ w wn y mo d h mi s z zb) := (by first | exact Lib.hid (HK.out.next hb) | exact Lib.hid (H3.out.next ((Below.refl _ _).drew.trans hb))); have kb : wn.cell? ⟨w.heap.size, 0, none⟩ = some (.int .i64 y) ∧ wn.cell? ⟨w.heap.size, 1, none⟩ = some (.int .i64 mo) ∧ wn.cell? ⟨w.heap.size, 2, none⟩ = some (.int .i64 d) ∧ wn.cell? ⟨w.heap.size, 3, none⟩ = some (.int .i64 h) ∧ wn.cell? ⟨w.heap.size, 4, none⟩ = some (.int .i64 mi) ∧ wn.cell? ⟨w.heap.size, 5, none⟩ = some (.int .i64 s) ∧ wn.cell? ⟨w.heap.size, 6, none⟩ = some (.int .i64 z) ∧ wn.cell? ⟨w.heap.size + 1, 0, none⟩ = some (.int .i64 y) ∧ wn.cell? ⟨w.heap.size + 1, 1, none⟩ = some (.int .i64 mo) ∧ wn.cell? ⟨w.heap.size + 1, 2, none⟩ = some (.int .i64 d) ∧ wn.cell? ⟨w.heap.size + 1, 3, none⟩ = some (.int .i64 h) ∧ wn.cell? ⟨w.heap.size + 1, 4, none⟩ = some (.int .i64 mi) ∧ wn.cell? ⟨w.heap.size + 1, 5, none⟩ = some (.int .i64 s) ∧ wn.cell? ⟨w.heap.size + 1, 6, none⟩ = some (.int .i64 zb) := ⟨HK.out.a.c0, HK.out.a.c1, HK.out.a.c2, HK.out.a.c3, HK.out.a.c4, HK.out.a.c5, HK.out.a.c6, HK.out.b.c0, HK.out.b.c1, HK.out.b.c2, HK.out.b.c3, HK.out.b.c4, HK.out.b.c5, HK.out.b.c6⟩; clear hb))
        all_goals
          go_wp2_with fail
          go_meet
          exact ⟨by rw [zone_sub HA.out HB.out], HK.out⟩
      case rest =>
        obtain ⟨rfl, hd⟩ := hcut
        have H4 := Lib.hid hd
        clear hd
        have hsb := secs_bd HA.out
        have hzr := HA.out.2.2.2.2.2.2.2.2.2.2.2.2
        obtain ⟨y', mo', d', h', mi', s', zz, b, hc, hp, _⟩ := at_both (secs y mo d h mi s z + 86400) z
        unfold St7 at hp
        have HP := Lib.hid hp
        have HC := Lib.hid hc
        clear hp hc
        have hw : IntKind.i64.wrap (secs y mo d h mi s z + 86400) = secs y mo d h mi s z + 86400 := IntWalk.i64_in _ (by omega)
        have hlt := H4.out.lt
        go_wp2_with fail
        go_cut [6, 7] (fun p o wx => ∃ q, p = .pointer (some ⟨q, 0, none⟩) ∧ o = .bool b ∧ StAt wx q y' mo' d' h' mi' s' zz ∧ DuoZ w wx y mo d h mi s z zb)
        case first =>
          obtain ⟨a0, a1, a2, a3, a4, a5, a6⟩ := H4.out.a
          have nec : wc.heap.size ≠ w.heap.size := by omega
          go_region_held3 (fun w' => w'.cell? ⟨w.heap.size, 0, none⟩ = some (.int .i64 y) ∧ w'.cell? ⟨w.heap.size, 1, none⟩ = some (.int .i64 mo) ∧ w'.cell? ⟨w.heap.size, 2, none⟩ = some (.int .i64 d) ∧ w'.cell? ⟨w.heap.size, 3, none⟩ = some (.int .i64 h) ∧ w'.cell? ⟨w.heap.size, 4, none⟩ = some (.int .i64 mi) ∧ w'.cell? ⟨w.heap.size, 5, none⟩ = some (.int .i64 s) ∧ w'.cell? ⟨w.heap.size, 6, none⟩ = some (.int .i64 z))
            (first | with_reducible exact kb | with_reducible exact ⟨a0, a1, a2, a3, a4, a5, a6⟩ | go_keep)
            (first
              | (go_at_call 14; refine (seconds_any _ _ _ _ _ _ _ _ HA.out).mono ?_; rintro e wn ⟨rfl, hb⟩; have hzn : wn.heap[wc.heap.size]? = some (.cells z7 23 (0, 0)) := (hb.block wc.heap.size (by simp)).trans (heap_alloc_new wc _); have HZN := Lib.hid hzn; have HB1 : Hid (Below wc.heap.size wc wn) := Lib.hid ((((Below.refl _ _).alloc (Nat.le_refl _) _).drew).trans (hb.mono (by simp))); have kb := (H4.out.a.below HB1.out (by omega)).seven; have hsn := HB1.out.size; have nen : wn.heap.size ≠ w.heap.size := (by omega); clear hb hzn)
              | (go_at_call 14; refine (seconds_any _ _ _ _ _ _ _ _ HA.out).mono ?_; rintro e wn ⟨rfl, hb⟩; have HB1 : Hid (Below wc.heap.size wc wn) := Lib.hid ((Below.refl _ _).drew.trans hb); have kb := (H4.out.a.below HB1.out (by omega)).seven; have hsn := HB1.out.size; have nen : wn.heap.size ≠ w.heap.size := (by omega); clear hb)
              | (go_at_call 10; refine (HP.out _).mono ?_; rintro e w2 ⟨rfl, hb⟩; have hz2 : w2.heap[wc.heap.size]? = some (.cells z7 23 (0, 0)) := (hb.block wc.heap.size (by have := HB1.out.size; exact (Array.getElem?_eq_some_iff.1 HZN.out).1)).trans HZN.out; have HB2 : Hid (Below wc.heap.size wc w2) := Lib.hid (HB1.out.trans (hb.mono HB1.out.size)); obtain ⟨HZ2, y0, y1, y2, y3, y4, y5, y6, x0, x1, x2, x3, x4, x5, x6⟩ := Z7At.of hz2; have kb := (H4.out.a.below HB2.out (by omega)).seven; have ne2 : w2.heap.size ≠ w.heap.size := (by have := HB2.out.size; omega); clear hb hz2)
              | (go_at_call 10; refine (HP.out _).mono ?_; rintro e w2 ⟨rfl, hb⟩; have hz2 : w2.heap[wn.heap.size]? = some (.cells z7 23 (0, 0)) := (hb.block wn.heap.size (by simp)).trans (heap_alloc_new wn _); have HB2 : Hid (Below wc.heap.size wc w2) := Lib.hid ((HB1.out.alloc HB1.out.size (.cells z7 23)).trans (hb.mono (by have := HB1.out.size; simp; omega))); obtain ⟨HZ2, y0, y1, y2, y3, y4, y5, y6, x0, x1, x2, x3, x4, x5, x6⟩ := Z7At.of hz2; have kb := (H4.out.a.below HB2.out (by omega)).seven; have ne2 : w2.heap.size ≠ w.heap.size := (by have := HB2.out.size; omega); clear hb hz2)
              | (go_at_call 10; refine (HP.out _).mono ?_; rintro e w2 ⟨rfl, hb⟩; have HB2 : Hid (Below wc.heap.size wc w2) := Lib.hid (HB1.out.trans (hb.mono HB1.out.size)); have kb := (H4.out.a.below HB2.out (by omega)).seven; have ne2 : w2.heap.size ≠ w.heap.size := (by have := HB2.out.size; omega); clear hb))
          all_goals
            go_wp2_with fail
            go_meet
            first
              | (have _g : Hid (w2.heap[wc.heap.size]? = some (.cells z7 23 (0, 0))) := by with_reducible exact HZ2
                 exact ⟨wc.heap.size, rfl, rfl, StAt.of_row (put7_row w2 wc.heap.size y' mo' d' h' mi' s' zz HZ2.out), H4.out.next (put7_below _ _ _ _ _ _ _ _ HB2.out (Nat.le_refl _))⟩)
              | (have _g : Hid (w2.heap[wn.heap.size]? = some (.cells z7 23 (0, 0))) := by with_reducible exact HZ2
                 exact ⟨wn.heap.size, rfl, rfl, StAt.of_row (put7_row w2 wn.heap.size y' mo' d' h' mi' s' zz HZ2.out), H4.out.next (put7_below _ _ _ _ _ _ _ _ HB2.out HB1.out.size)⟩)
              | exact ⟨w2.heap.size, rfl, rfl, StAt.new w2 y' mo' d' h' mi' s' zz, H4.out.next (HB2.out.alloc HB2.out.size _)⟩
        case rest =>
          obtain ⟨q, rfl, rfl, hst, hd⟩ := hcut
          have HD := Lib.hid hd
          have HS := Lib.hid hst
          clear hd hst hw hlt
          rcases HC.out with ⟨rfl, hin, hr', rfl, hs'⟩ | ⟨rfl, hno, _⟩
          · obtain ⟨rfl, rfl, rfl, hor⟩ := day_later HA.out hr' hs'
            obtain ⟨a0, a1, a2, a3, a4, a5, a6⟩ := HD.out.a
            obtain ⟨e0, e1, e2, e3, e4, e5, e6⟩ := HS.out
            have hdd := HA.out.2.2.2.2.1
            have hdu := HA.out.2.2.2.2.2.1
            have hdm := dim_bd y mo
            clear HC HP hin hr' hs'
            rcases hor with ⟨rfl, rfl, rfl⟩ | ⟨rfl, h28⟩
            · go_wp2_with fail
              go_ret
              exact ⟨rfl, HD.out.bel⟩
            · have hn1 : ((1 : Int) == d + 1) = false := by simp; omega
              go_wp2_with fail
              go_ret
              exact ⟨rfl, HD.out.bel⟩
          · have hy := day_last HA.out (fun g => hno ⟨hzr, g⟩)
            obtain ⟨a0, a1, a2, a3, a4, a5, a6⟩ := HD.out.a
            clear HC HP hno
            subst hy
            go_wp2_with fail
            go_ret
            exact ⟨rfl, HD.out.bel⟩
    · have HN := Lib.hid rb
      clear rb
      obtain ⟨b0, b1, b2, b3, b4, b5, b6⟩ := H2.out.b
      go_wp2_with fail
      refine (rright_no y mo d h mi s zb _ HN.out).mono ?_
      rintro e w3 ⟨rfl, hb3⟩
      clear b0 b1 b2 b3 b4 b5 b6
      have H3 := Lib.hid (H2.out.next hb3)
      clear hb3
      go_wp2_with fail
      refine (awake_any _).mono ?_
      rintro e w4 ⟨rfl, hb4⟩
      have H4 := Lib.hid (H3.out.next hb4)
      clear hb4
      go_wp2_with fail
      go_ret
      exact ⟨rfl, H4.out.bel⟩
  · have HN := Lib.hid ra
    clear ra
    obtain ⟨a0, a1, a2, a3, a4, a5, a6⟩ := H1.out.a
    go_wp2_with fail
    refine (rright_no y mo d h mi s z _ HN.out).mono ?_
    rintro e w2 ⟨rfl, hb2⟩
    clear a0 a1 a2 a3 a4 a5 a6
    have H2 := Lib.hid (H1.out.next hb2)
    clear hb2
    go_wp2_with fail
    refine (awake_any _).mono ?_
    rintro e w3 ⟨rfl, hb3⟩
    have H3 := Lib.hid (H2.out.next hb3)
    clear hb3
    go_wp2_with fail
    go_ret
    exact ⟨rfl, H3.out.bel⟩
end Go.Proofs.Ythcgdbmcpnmeeaa
