/-
  The walk of StampOrder.
-/
import Derived.Test.YthcgdbmcpnmeeaaOrd
import Derived.Test.YthcgdbmcpnmeeaaRNo
namespace Go.Proofs.Ythcgdbmcpnmeeaa
set_option linter.unusedVariables false
open Go.RowKit

theorem StAt.two {w : World} (y mo d h mi s z y' mo' d' h' mi' s' : Int) : StAt ((w.alloc (.cells (St7 y mo d h mi s z) 23)).alloc (.cells (St7 y' mo' d' h' mi' s' z) 23)) w.heap.size y mo d h mi s z ∧ StAt ((w.alloc (.cells (St7 y mo d h mi s z) 23)).alloc (.cells (St7 y' mo' d' h' mi' s' z) 23)) (w.heap.size + 1) y' mo' d' h' mi' s' z :=
  ⟨StAt.of_row (heap_alloc2_old w _ _), StAt.of_row (heap_alloc2_new w _ _)⟩

theorem ord_eq {y mo d h mi s z y' mo' d' h' mi' s' : Int} (ra : RightS y mo d h mi s z) (rb : RightS y' mo' d' h' mi' s' z) : (decide (ordK y mo d h mi s < ordK y' mo' d' h' mi' s') == decide (secs y mo d h mi s z < secs y' mo' d' h' mi' s' z)) = true := by
  have hh := secs_lt ra rb
  unfold ordK
  by_cases e : secs y mo d h mi s z < secs y' mo' d' h' mi' s' z
  · rw [decide_eq_true (hh.2 e), decide_eq_true e]; rfl
  · rw [decide_eq_false (fun x => e (hh.1 x)), decide_eq_false e]; rfl

/-- two stamps in the blocks that the call has made, and nothing that was there turned -/
structure Duo (w w' : World) (y mo d h mi s z y' mo' d' h' mi' s' : Int) : Prop where
  a : StAt w' w.heap.size y mo d h mi s z
  b : StAt w' (w.heap.size + 1) y' mo' d' h' mi' s' z
  lt : w.heap.size + 1 < w'.heap.size
  bel : Below w.heap.size w w'
theorem Duo.next {w w1 w2 : World} {y mo d h mi s z y' mo' d' h' mi' s' : Int} (k : Duo w w1 y mo d h mi s z y' mo' d' h' mi' s') (hb : Below w1.heap.size w1 w2) : Duo w w2 y mo d h mi s z y' mo' d' h' mi' s' :=
  ⟨k.a.below hb (by have := k.lt; omega), k.b.below hb k.lt, Nat.lt_of_lt_of_le k.lt hb.size, k.bel.trans (hb.mono (by have := k.lt; omega))⟩

set_option maxRecDepth 8000 in
set_option maxHeartbeats 2000000 in
theorem order_any (y mo d h mi s z y' mo' d' h' mi' s' z' : Int) (w : World) : Calls Try.prog 5 #[.agg #[.int .i64 y, .int .i64 mo, .int .i64 d, .int .i64 h, .int .i64 mi, .int .i64 s, .int .i64 z], .agg #[.int .i64 y', .int .i64 mo', .int .i64 d', .int .i64 h', .int .i64 mi', .int .i64 s', .int .i64 z']] w fun e w' => e = .returned (.bool true) ∧ Below w.heap.size w w' := by
  have HT := Lib.hid (StAt.two (w := w) y mo d h mi s z y' mo' d' h' mi' s')
  go_enter Try.func5, Try.ntmps5
  go_wp2_with fail
  refine (awake_any _).mono ?_
  rintro e w1 ⟨rfl, hb⟩
  have D1 : Duo w w1 y mo d h mi s z y' mo' d' h' mi' s' := ⟨HT.out.1.below hb (by simp; omega), HT.out.2.below hb (by simp), by have := hb.size; simp at this; omega, (((Below.refl _ _).alloc (Nat.le_refl _) _).alloc (by simp) _).trans (hb.mono (by simp; omega))⟩
  have H1 := Lib.hid D1
  clear D1 hb HT
  by_cases ra : RightS y mo d h mi s z
  · have HA := Lib.hid ra
    clear ra
    obtain ⟨a0, a1, a2, a3, a4, a5, a6⟩ := H1.out.a
    go_wp2_with fail
    refine (rright_yes y mo d h mi s z _ HA.out).mono ?_
    rintro e w2 ⟨rfl, hb2⟩
    clear a0 a1 a2 a3 a4 a5 a6
    have H2 := Lib.hid (H1.out.next hb2)
    clear hb2
    by_cases rb : RightS y' mo' d' h' mi' s' z
    · have HB := Lib.hid rb
      clear rb
      obtain ⟨b0, b1, b2, b3, b4, b5, b6⟩ := H2.out.b
      go_wp2_with fail
      refine (rright_yes y' mo' d' h' mi' s' z _ HB.out).mono ?_
      rintro e w3 ⟨rfl, hb3⟩
      clear b0 b1 b2 b3 b4 b5 b6
      have H3 := Lib.hid (H2.out.next hb3)
      clear hb3
      have hcmp := ord_eq HA.out HB.out
      obtain ⟨a0, a1, a2, a3, a4, a5, a6⟩ := H3.out.a
      obtain ⟨b0, b1, b2, b3, b4, b5, b6⟩ := H3.out.b
      go_wp2_with fail
      have hcase : ((y == y') = false ∨ ((y == y') = true ∧ ((mo == mo') = false ∨ ((mo == mo') = true ∧ ((d == d') = false ∨ ((d == d') = true ∧ ((h == h') = false ∨ ((h == h') = true ∧ ((mi == mi') = false ∨ ((mi == mi') = true ∧ ((s == s') = false ∨ (s == s') = true))))))))))) := by
        cases y == y' <;> cases mo == mo' <;> cases d == d' <;> cases h == h' <;> cases mi == mi' <;> cases s == s' <;> simp
      have hsec : (secs y mo d h mi s z == secs y' mo' d' h' mi' s' z) = (y == y' && (mo == mo' && (d == d' && (h == h' && (mi == mi' && s == s'))))) := by
        rw [Bool.eq_iff_iff]
        simp only [Bool.and_eq_true, beq_iff_eq]
        exact ⟨fun e => secs_inj HA.out HB.out e, fun e => by obtain ⟨rfl, rfl, rfl, rfl, rfl, rfl⟩ := e; rfl⟩
      have HC := Lib.hid hcase
      have HE := Lib.hid hsec
      clear hcase hsec
      rcases HC.out with n | ⟨p1, n | ⟨p2, n | ⟨p3, n | ⟨p4, n | ⟨p5, n | n⟩⟩⟩⟩⟩
      all_goals
        have hs := HE.out
        try rw [p1] at hs
        try rw [p2] at hs
        try rw [p3] at hs
        try rw [p4] at hs
        try rw [p5] at hs
        try rw [n] at hs
        simp only [Bool.true_and, Bool.false_and] at hs
        clear HC HE
        go_region_held3 (fun w' => w'.cell? ⟨w.heap.size, 0, none⟩ = some (.int .i64 y) ∧ w'.cell? ⟨w.heap.size, 1, none⟩ = some (.int .i64 mo) ∧ w'.cell? ⟨w.heap.size, 2, none⟩ = some (.int .i64 d) ∧ w'.cell? ⟨w.heap.size, 3, none⟩ = some (.int .i64 h) ∧ w'.cell? ⟨w.heap.size, 4, none⟩ = some (.int .i64 mi) ∧ w'.cell? ⟨w.heap.size, 5, none⟩ = some (.int .i64 s) ∧ w'.cell? ⟨w.heap.size, 6, none⟩ = some (.int .i64 z) ∧ w'.cell? ⟨w.heap.size + 1, 0, none⟩ = some (.int .i64 y') ∧ w'.cell? ⟨w.heap.size + 1, 1, none⟩ = some (.int .i64 mo') ∧ w'.cell? ⟨w.heap.size + 1, 2, none⟩ = some (.int .i64 d') ∧ w'.cell? ⟨w.heap.size + 1, 3, none⟩ = some (.int .i64 h') ∧ w'.cell? ⟨w.heap.size + 1, 4, none⟩ = some (.int .i64 mi') ∧ w'.cell? ⟨w.heap.size + 1, 5, none⟩ = some (.int .i64 s') ∧ w'.cell? ⟨w.heap.size + 1, 6, none⟩ = some (.int .i64 z))
          (first | with_reducible exact kb | exact ⟨a0, a1, a2, a3, a4, a5, a6, b0, b1, b2, b3, b4, b5, b6⟩ | go_keep)
          (first
            | (go_at_call 13; refine (ord_any _ _ _ _ _ _ _ _ (by first | exact HA.out | exact HB.out)).mono ?_; rintro e wn ⟨rfl, hb⟩; have HK : Hid (Duo w wn y mo d h mi s z y' mo' d' h' mi' s') := (by first | exact Lib.hid (HK.out.next hb) | exact Lib.hid (H3.out.next ((Below.refl _ _).drew.trans hb))); have kb : wn.cell? ⟨w.heap.size, 0, none⟩ = some (.int .i64 y) ∧ wn.cell? ⟨w.heap.size, 1, none⟩ = some (.int .i64 mo) ∧ wn.cell? ⟨w.heap.size, 2, none⟩ = some (.int .i64 d) ∧ wn.cell? ⟨w.heap.size, 3, none⟩ = some (.int .i64 h) ∧ wn.cell? ⟨w.heap.size, 4, none⟩ = some (.int .i64 mi) ∧ wn.cell? ⟨w.heap.size, 5, none⟩ = some (.int .i64 s) ∧ wn.cell? ⟨w.heap.size, 6, none⟩ = some (.int .i64 z) ∧ wn.cell? ⟨w.heap.size + 1, 0, none⟩ = some (.int .i64 y') ∧ wn.cell? ⟨w.heap.size + 1, 1, none⟩ = some (.int .i64 mo') ∧ wn.cell? ⟨w.heap.size + 1, 2, none⟩ = some (.int .i64 d') ∧ wn.cell? ⟨w.heap.size + 1, 3, none⟩ = some (.int .i64 h') ∧ wn.cell? ⟨w.heap.size + 1, 4, none⟩ = some (.int .i64 mi') ∧ wn.cell? ⟨w.heap.size + 1, 5, none⟩ = some (.int .i64 s') ∧ wn.cell? ⟨w.heap.size + 1, 6, none⟩ = some (.int .i64 z) := ⟨HK.out.a.c0, HK.out.a.c1, HK.out.a.c2, HK.out.a.c3, HK.out.a.c4, HK.out.a.c5, HK.out.a.c6, HK.out.b.c0, HK.out.b.c1, HK.out.b.c2, HK.out.b.c3, HK.out.b.c4, HK.out.b.c5, HK.out.b.c6⟩; clear hb)
            | (go_at_call 14; refine (seconds_any _ _ _ _ _ _ _ _ (by first | exact HA.out | exact HB.out)).mono ?_; rintro e wn ⟨rfl, hb⟩; have HK : Hid (Duo w wn y mo d h mi s z y' mo' d' h' mi' s') := (by first | exact Lib.hid (HK.out.next hb) | exact Lib.hid (H3.out.next ((Below.refl _ _).drew.trans hb))); have kb : wn.cell? ⟨w.heap.size, 0, none⟩ = some (.int .i64 y) ∧ wn.cell? ⟨w.heap.size, 1, none⟩ = some (.int .i64 mo) ∧ wn.cell? ⟨w.heap.size, 2, none⟩ = some (.int .i64 d) ∧ wn.cell? ⟨w.heap.size, 3, none⟩ = some (.int .i64 h) ∧ wn.cell? ⟨w.heap.size, 4, none⟩ = some (.int .i64 mi) ∧ wn.cell? ⟨w.heap.size, 5, none⟩ = some (.int .i64 s) ∧ wn.cell? ⟨w.heap.size, 6, none⟩ = some (.int .i64 z) ∧ wn.cell? ⟨w.heap.size + 1, 0, none⟩ = some (.int .i64 y') ∧ wn.cell? ⟨w.heap.size + 1, 1, none⟩ = some (.int .i64 mo') ∧ wn.cell? ⟨w.heap.size + 1, 2, none⟩ = some (.int .i64 d') ∧ wn.cell? ⟨w.heap.size + 1, 3, none⟩ = some (.int .i64 h') ∧ wn.cell? ⟨w.heap.size + 1, 4, none⟩ = some (.int .i64 mi') ∧ wn.cell? ⟨w.heap.size + 1, 5, none⟩ = some (.int .i64 s') ∧ wn.cell? ⟨w.heap.size + 1, 6, none⟩ = some (.int .i64 z) := ⟨HK.out.a.c0, HK.out.a.c1, HK.out.a.c2, HK.out.a.c3, HK.out.a.c4, HK.out.a.c5, HK.out.a.c6, HK.out.b.c0, HK.out.b.c1, HK.out.b.c2, HK.out.b.c3, HK.out.b.c4, HK.out.b.c5, HK.out.b.c6⟩; clear hb))
        all_goals
          go_wp2_with fail
          go_ret
          exact ⟨rfl, HK.out.bel⟩
    · have HN := Lib.hid rb
      clear rb
      obtain ⟨b0, b1, b2, b3, b4, b5, b6⟩ := H2.out.b
      go_wp2_with fail
      refine (rright_no y' mo' d' h' mi' s' z _ HN.out).mono ?_
      rintro e w3 ⟨rfl, hb3⟩
      clear b0 b1 b2 b3 b4 b5 b6
      have H3 := Lib.hid (H2.out.next hb3)
      clear hb3
      go_wp2_with fail
      refine (awake_any _).mono ?_
      rintro e w4 ⟨rfl, hb4⟩
      have H4 := Lib.hid (H3.out.next hb4)
      clear hb4
      go_wp2_with fail
      go_ret
      exact ⟨rfl, H4.out.bel⟩
  · have HN := Lib.hid ra
    clear ra
    obtain ⟨a0, a1, a2, a3, a4, a5, a6⟩ := H1.out.a
    go_wp2_with fail
    refine (rright_no y mo d h mi s z _ HN.out).mono ?_
    rintro e w2 ⟨rfl, hb2⟩
    clear a0 a1 a2 a3 a4 a5 a6
    have H2 := Lib.hid (H1.out.next hb2)
    clear hb2
    go_wp2_with fail
    refine (awake_any _).mono ?_
    rintro e w3 ⟨rfl, hb3⟩
    have H3 := Lib.hid (H2.out.next hb3)
    clear hb3
    go_wp2_with fail
    go_ret
    exact ⟨rfl, H3.out.bel⟩
end Go.Proofs.Ythcgdbmcpnmeeaa
