/-
  The walk of StampBack.
-/
import Derived.Test.YthcgdbmcpnmeeaaDoorPBack
import Derived.Test.YthcgdbmcpnmeeaaDoorAtP
import Derived.Test.YthcgdbmcpnmeeaaDoorZMath
import Derived.Test.YthcgdbmcpnmeeaaDoorAwake
import Derived.Test.YthcgdbmcpnmeeaaDoorRYes
import Derived.Test.YthcgdbmcpnmeeaaDoorRNo
import Derived.Test.YthcgdbmcpnmeeaaDoorSeconds
import Derived.Test.YthcgdbmcpnmeeaaDoorRightNo
import Derived.Outline
namespace Go.Proofs.YthcgdbmcpnmeeaaDoor
set_option linter.unusedVariables false
open Go.RowKit Go.Lib Go.Sort Go.Joins

def StRow (w : World) (b : Nat) (y mo d h mi s z : Int) : Prop := w.heap[b]? = some (.cells (St7 y mo d h mi s z) 23 (0, 0))
section
variable {w w' w2 : World} {b S : Nat} {y mo d h mi s z : Int}
theorem StRow.lt (k : StRow w b y mo d h mi s z) : b < w.heap.size := (Array.getElem?_eq_some_iff.1 k).1
theorem StRow.at (k : StRow w b y mo d h mi s z) : StAt w b y mo d h mi s z := StAt.of_row k
theorem StRow.on (k : StRow w b y mo d h mi s z) (hb : Below S w w') (hS : w.heap.size ≤ S) : StRow w' b y mo d h mi s z := (hb.block b (Nat.lt_of_lt_of_le k.lt hS)).trans k
theorem StRow.onA (k : StRow w b y mo d h mi s z) (o : Obj) (hb : Below (w.alloc o).heap.size (w.alloc o) w') : StRow w' b y mo d h mi s z :=
  StRow.on (StRow.on k ((Below.refl w.heap.size w).alloc (Nat.le_refl _) o) (Nat.le_refl _)) hb (Nat.le_refl _)
theorem StRow.new (y mo d h mi s z : Int) (hb : Below (w.alloc (.cells (St7 y mo d h mi s z) 23)).heap.size (w.alloc (.cells (St7 y mo d h mi s z) 23)) w') : StRow w' w.heap.size y mo d h mi s z :=
  StRow.on (w := w.alloc (.cells (St7 y mo d h mi s z) 23)) (heap_alloc_new w _) hb (Nat.le_refl _)
theorem below_on (h0 : Below S w w') (hS : S ≤ w'.heap.size) (hb : Below w'.heap.size w' w2) : Below S w w2 := h0.trans (hb.mono hS)
theorem below_onA (h0 : Below S w w') (hS : S ≤ w'.heap.size) (o : Obj) (hb : Below (w'.alloc o).heap.size (w'.alloc o) w2) : Below S w w2 :=
  (h0.alloc hS o).trans (hb.mono (by simp; omega))
end

set_option maxRecDepth 100000 in
set_option maxHeartbeats 8000000 in
theorem back_yes (K : ItoaC) (y mo d h mi s z zb : Int) (w : World) (ht : TabIs Tryd.prog w "internal/strconv.uint64pow10" .u64 pow10Tab) (r : RightS y mo d h mi s z) : Calls Tryd.prog 4 #[.agg #[.int .i64 y, .int .i64 mo, .int .i64 d, .int .i64 h, .int .i64 mi, .int .i64 s, .int .i64 z], .int .i64 zb] w fun e w' => e = .returned (.bool true) ∧ Below w.heap.size w w' := by
  obtain ⟨yn, mn, dn, hn, mn2, sn, hN⟩ := nums_of r
  obtain ⟨txt, htx⟩ : ∃ t, t = printB yn mn dn hn mn2 sn (sgn z) (z.natAbs / 60) (z.natAbs % 60) := ⟨_, rfl⟩
  have HP : Hid (∀ w, TabIs Tryd.prog w "internal/strconv.uint64pow10" .u64 pow10Tab → Calls Tryd.prog 5 #[.agg #[.int .i64 y, .int .i64 mo, .int .i64 d, .int .i64 h, .int .i64 mi, .int .i64 s, .int .i64 z]] w fun e w' => e = .returned (.tuple #[.string txt, .int .i64 0]) ∧ Below w.heap.size w w') :=
    Lib.hid (fun w ht => by rw [htx]; exact print_yes K (fun y mo d h mi s z r w => right_yes y mo d h mi s z w r) (fun w => (months_any w)) y mo d h mi s z yn mn dn hn mn2 sn hN w r ht)
  have HQ : Hid (∀ w, Calls Tryd.prog 12 #[.string txt] w fun e w' => e = .returned (.tuple #[.agg (St7 y mo d h mi s z), .int .i64 0]) ∧ Below w.heap.size w w') :=
    Lib.hid (fun w => by rw [htx]; exact parse_print y mo d h mi s z yn mn dn hn mn2 sn hN w r)
  clear htx hN
  have HR := Lib.hid r
  have HT := Lib.hid ht
  obtain ⟨n, hn0⟩ : ∃ n, n = secs y mo d h mi s z := ⟨_, rfl⟩
  have HS : Hid (∀ w, Calls Tryd.prog 10 #[.agg #[.int .i64 y, .int .i64 mo, .int .i64 d, .int .i64 h, .int .i64 mi, .int .i64 s, .int .i64 z]] w fun e w' => e = .returned (.int .i64 n) ∧ Below w.heap.size w w') :=
    Lib.hid (fun w => by rw [hn0]; exact seconds_any y mo d h mi s z w r)
  have hbd := secs_bd r
  rw [← hn0] at hbd
  have hz0 : -959 ≤ z ∧ z ≤ 959 := r.2.2.2.2.2.2.2.2.2.2.2.2
  have hs0 : 0 ≤ s ∧ s ≤ 59 := ⟨r.2.2.2.2.2.2.2.2.2.2.1, r.2.2.2.2.2.2.2.2.2.2.2.1⟩
  have HN := Lib.hid hn0
  clear hn0 ht
  have HA : Hid (∀ w, Calls Tryd.prog 13 #[.int .i64 n, .int .i64 z] w fun e w' => e = .returned (.tuple #[.agg (St7 y mo d h mi s z), .bool true]) ∧ Below w.heap.size w w') := Lib.hid (fun w =>
    (at_yes n z w hz0.1 hz0.2 hbd.1 hbd.2).mono fun e w' g => ⟨by
      obtain ⟨y', mo', d', h', mi', s', hr', hs', rfl⟩ := g.1
      obtain ⟨rfl, rfl, rfl, rfl, rfl, rfl⟩ := secs_inj HR.out hr' (by rw [← HN.out]; exact hs'.symm)
      rfl, g.2⟩)
  obtain ⟨xy, xmo, xd, xh, xmi, xs, xz, xb, hx, hX⟩ := at_prog (n + 1) z
  obtain ⟨vy, vmo, vd, vh, vmi, vs, vz, vb, hv, hV⟩ := at_prog n zb
  have HX := Lib.hid hX
  have HV := Lib.hid hV
  have HXC := Lib.hid hx
  have HVC := Lib.hid hv
  clear hX hV hx hv r
  have hw1 : IntKind.i64.wrap (n + 1) = n + 1 := IntWalk.i64_in _ (by omega)
  have HW1 := Lib.hid hw1
  clear hw1
  unfold AtIs at HX HV
  have hXs : xb = true → (s = 59 ∨ (xs = s + 1 ∧ xd = d)) := by
    intro hb
    rcases HXC.out with ⟨_, _, rx, rfl, ex⟩ | ⟨h0, _⟩
    · by_cases h59 : s = 59
      · exact .inl h59
      · right
        have hr2 : RightS y mo d h mi (s + 1) xz := by
          obtain ⟨a1, a2, a3, a4, a5, a6, a7, a8, a9, a10, a11, a12, a13, a14⟩ := HR.out
          exact ⟨a1, a2, a3, a4, a5, a6, a7, a8, a9, a10, by omega, by omega, a13, a14⟩
        have e2 : secs y mo d h mi (s + 1) xz = n + 1 := by rw [HN.out]; unfold secs; omega
        obtain ⟨_, _, e3, _, _, e6⟩ := secs_inj rx hr2 (ex.trans e2.symm)
        exact ⟨e6, e3⟩
    · rw [hb] at h0; cases h0
  have HXS := Lib.hid hXs
  clear hXs hbd
  rcases HVC.out with hvy | hvn
  · rcases HXC.out with hxy | hxn
    · by_cases hs59 : s = 59
      · skip
        obtain ⟨rfl, _, rv, rfl, ev⟩ := hvy
        have HSV := Lib.hid (fun w => by have := seconds_any vy vmo vd vh vmi vs vz w rv; rw [ev] at this; exact this : ∀ w, Calls Tryd.prog 10 #[.agg #[.int .i64 vy, .int .i64 vmo, .int .i64 vd, .int .i64 vh, .int .i64 vmi, .int .i64 vs, .int .i64 vz]] w fun e w' => e = .returned (.int .i64 n) ∧ Below w.heap.size w w')
        clear rv ev
        obtain ⟨rfl, _, rx, hxz, ex⟩ := hxy
        subst hxz
        subst hs59
        have HSX := Lib.hid (fun w => by have := seconds_any _ _ _ _ _ _ _ w rx; rw [ex] at this; exact this : ∀ w, Calls Tryd.prog 10 #[.agg #[.int .i64 xy, .int .i64 xmo, .int .i64 xd, .int .i64 xh, .int .i64 xmi, .int .i64 xs, .int .i64 xz]] w fun e w' => e = .returned (.int .i64 (n + 1)) ∧ Below w.heap.size w w')
        clear rx ex
        clear HXC HVC HXS
        go_enter Tryd.func4, Tryd.ntmps4
        go_wp2_with fail
        refine (awake_any _).mono ?_
        rintro e w1 ⟨rfl, hb1⟩
        have R1 := Lib.hid (StRow.new _ _ _ _ _ _ _ hb1)
        have B1 := Lib.hid (below_onA (Below.refl w.heap.size w) (Nat.le_refl _) _ hb1)
        clear hb1
        obtain ⟨c0, c1, c2, c3, c4, c5, c6⟩ := R1.out.at
        go_wp2_with fail
        refine (rright_yes _ _ _ _ _ _ _ _ HR.out).mono ?_
        rintro e w2 ⟨rfl, hb2⟩
        have R2 := Lib.hid (R1.out.on hb2 (Nat.le_refl _))
        have B2 := Lib.hid (below_on B1.out (B1.out.size) hb2)
        clear hb2 c0 c1 c2 c3 c4 c5 c6 R1 B1
        obtain ⟨c0, c1, c2, c3, c4, c5, c6⟩ := R2.out.at
        go_wp2_with fail
        refine (HP.out _ (tab_below HT.out B2.out (Nat.le_refl _))).mono ?_
        rintro e w3 ⟨rfl, hb3⟩
        have R3 := Lib.hid (R2.out.on hb3 (Nat.le_refl _))
        have B3 := Lib.hid (below_on B2.out (B2.out.size) hb3)
        clear hb3 c0 c1 c2 c3 c4 c5 c6 R2 B2
        go_wp2_with fail
        refine (HQ.out _).mono ?_
        rintro e w4 ⟨rfl, hb4⟩
        have R4 := Lib.hid (R3.out.on hb4 (Nat.le_refl _))
        have B4 := Lib.hid (below_on B3.out (B3.out.size) hb4)
        clear hb4 R3 B3
        obtain ⟨c0, c1, c2, c3, c4, c5, c6⟩ := R4.out.at
        have l4 := R4.out.lt
        unfold St7
        go_wp2_with fail
        refine (HS.out _).mono ?_
        rintro e w5 ⟨rfl, hb5⟩
        have Q5 := Lib.hid (StRow.new _ _ _ _ _ _ _ hb5)
        have R5 := Lib.hid (R4.out.onA _ hb5)
        have B5 := Lib.hid (below_onA B4.out (B4.out.size) _ hb5)
        clear hb5 R4 B4 c0 c1 c2 c3 c4 c5 c6
        obtain ⟨c0, c1, c2, c3, c4, c5, c6⟩ := R5.out.at
        go_wp2_with fail
        refine (HA.out _).mono ?_
        rintro e w6 ⟨rfl, hb6⟩
        have Q6 := Lib.hid (Q5.out.on hb6 (Nat.le_refl _))
        have R6 := Lib.hid (R5.out.on hb6 (Nat.le_refl _))
        have B6 := Lib.hid (below_on B5.out (B5.out.size) hb6)
        clear hb6 R5 Q5 B5 c0 c1 c2 c3 c4 c5 c6
        obtain ⟨c0, c1, c2, c3, c4, c5, c6⟩ := R6.out.at
        have l6 := R6.out.lt
        unfold St7
        have hw1 := HW1.out
        go_wp2_with fail
        clear hw1
        refine (HX.out _).mono ?_
        rintro e w7 ⟨rfl, hb7⟩
        have P7 := Lib.hid (StRow.new _ _ _ _ _ _ _ hb7)
        have Q7 := Lib.hid (Q6.out.onA _ hb7)
        have R7 := Lib.hid (R6.out.onA _ hb7)
        have B7 := Lib.hid (below_onA B6.out (B6.out.size) _ hb7)
        clear hb7 R6 Q6 B6 c0 c1 c2 c3 c4 c5 c6
        unfold St7
        go_wp2_with fail
        refine (HV.out _).mono ?_
        rintro e w8 ⟨rfl, hb8⟩
        have X8 := Lib.hid (StRow.new _ _ _ _ _ _ _ hb8)
        have P8 := Lib.hid (P7.out.onA _ hb8)
        have Q8 := Lib.hid (Q7.out.onA _ hb8)
        have R8 := Lib.hid (R7.out.onA _ hb8)
        have B8 := Lib.hid (below_onA B7.out (B7.out.size) _ hb8)
        clear hb8 R7 Q7 P7 B7
        unfold St7
        have lq := Q8.out.lt
        have lr := R8.out.lt
        have lp := P8.out.lt
        have lx := X8.out.lt
        obtain ⟨c0, c1, c2, c3, c4, c5, c6⟩ := R8.out.at
        obtain ⟨q0, q1, q2, q3, q4, q5, q6⟩ := Q8.out.at
        obtain ⟨p0, p1, p2, p3, p4, p5, p6⟩ := P8.out.at
        obtain ⟨x0, x1, x2, x3, x4, x5, x6⟩ := X8.out.at
        have hw1 := HW1.out
        go_upto_region 9 with fail
        simp only [List.append_eq, List.cons_append, List.nil_append]
        go_wp2_with fail
        refine (HSX.out _).mono ?_
        rintro e w9 ⟨rfl, hb9⟩
        have V9 := Lib.hid (StRow.new _ _ _ _ _ _ _ hb9)
        have X9 := Lib.hid (X8.out.onA _ hb9)
        have R9 := Lib.hid (R8.out.onA _ hb9)
        have B9 := Lib.hid (below_onA B8.out (B8.out.size) _ hb9)
        clear hb9 c0 c1 c2 c3 c4 c5 c6 q0 q1 q2 q3 q4 q5 q6 p0 p1 p2 p3 p4 p5 p6 x0 x1 x2 x3 x4 x5 x6
        obtain ⟨c0, c1, c2, c3, c4, c5, c6⟩ := R9.out.at
        obtain ⟨x0, x1, x2, x3, x4, x5, x6⟩ := X9.out.at
        obtain ⟨v0, v1, v2, v3, v4, v5, v6⟩ := V9.out.at
        go_wp2_with fail
        refine (HSV.out _).mono ?_
        rintro e w10 ⟨rfl, hb10⟩
        have V10 := Lib.hid (V9.out.on hb10 (Nat.le_refl _))
        have B10 := Lib.hid (below_on B9.out (B9.out.size) hb10)
        clear v0 v1 v2 v3 v4 v5 v6
        clear hb10
        obtain ⟨v0, v1, v2, v3, v4, v5, v6⟩ := V10.out.at
        go_wp2_with fail
        go_ret
        exact ⟨rfl, B10.out⟩
      · have hsd : xs = s + 1 ∧ xd = d := by rcases HXS.out hxy.1 with h | h; exact absurd h hs59; exact h
        obtain ⟨rfl, _, rv, rfl, ev⟩ := hvy
        have HSV := Lib.hid (fun w => by have := seconds_any vy vmo vd vh vmi vs vz w rv; rw [ev] at this; exact this : ∀ w, Calls Tryd.prog 10 #[.agg #[.int .i64 vy, .int .i64 vmo, .int .i64 vd, .int .i64 vh, .int .i64 vmi, .int .i64 vs, .int .i64 vz]] w fun e w' => e = .returned (.int .i64 n) ∧ Below w.heap.size w w')
        clear rv ev
        obtain ⟨rfl, _, rx, hxz, ex⟩ := hxy
        subst hxz
        have h59 : (s == 59) = false := by simp [hs59]
        have hws : IntKind.i64.wrap (s + 1) = s + 1 := IntWalk.i64_in _ (by omega)
        clear hs59
        obtain ⟨rfl, rfl⟩ := hsd
        have HSX := Lib.hid (fun w => by have := seconds_any _ _ _ _ _ _ _ w rx; rw [ex] at this; exact this : ∀ w, Calls Tryd.prog 10 #[.agg #[.int .i64 xy, .int .i64 xmo, .int .i64 xd, .int .i64 xh, .int .i64 xmi, .int .i64 (s + 1), .int .i64 xz]] w fun e w' => e = .returned (.int .i64 (n + 1)) ∧ Below w.heap.size w w')
        clear rx ex
        clear HXC HVC HXS
        go_enter Tryd.func4, Tryd.ntmps4
        go_wp2_with fail
        refine (awake_any _).mono ?_
        rintro e w1 ⟨rfl, hb1⟩
        have R1 := Lib.hid (StRow.new _ _ _ _ _ _ _ hb1)
        have B1 := Lib.hid (below_onA (Below.refl w.heap.size w) (Nat.le_refl _) _ hb1)
        clear hb1
        obtain ⟨c0, c1, c2, c3, c4, c5, c6⟩ := R1.out.at
        go_wp2_with fail
        refine (rright_yes _ _ _ _ _ _ _ _ HR.out).mono ?_
        rintro e w2 ⟨rfl, hb2⟩
        have R2 := Lib.hid (R1.out.on hb2 (Nat.le_refl _))
        have B2 := Lib.hid (below_on B1.out (B1.out.size) hb2)
        clear hb2 c0 c1 c2 c3 c4 c5 c6 R1 B1
        obtain ⟨c0, c1, c2, c3, c4, c5, c6⟩ := R2.out.at
        go_wp2_with fail
        refine (HP.out _ (tab_below HT.out B2.out (Nat.le_refl _))).mono ?_
        rintro e w3 ⟨rfl, hb3⟩
        have R3 := Lib.hid (R2.out.on hb3 (Nat.le_refl _))
        have B3 := Lib.hid (below_on B2.out (B2.out.size) hb3)
        clear hb3 c0 c1 c2 c3 c4 c5 c6 R2 B2
        go_wp2_with fail
        refine (HQ.out _).mono ?_
        rintro e w4 ⟨rfl, hb4⟩
        have R4 := Lib.hid (R3.out.on hb4 (Nat.le_refl _))
        have B4 := Lib.hid (below_on B3.out (B3.out.size) hb4)
        clear hb4 R3 B3
        obtain ⟨c0, c1, c2, c3, c4, c5, c6⟩ := R4.out.at
        have l4 := R4.out.lt
        unfold St7
        go_wp2_with fail
        refine (HS.out _).mono ?_
        rintro e w5 ⟨rfl, hb5⟩
        have Q5 := Lib.hid (StRow.new _ _ _ _ _ _ _ hb5)
        have R5 := Lib.hid (R4.out.onA _ hb5)
        have B5 := Lib.hid (below_onA B4.out (B4.out.size) _ hb5)
        clear hb5 R4 B4 c0 c1 c2 c3 c4 c5 c6
        obtain ⟨c0, c1, c2, c3, c4, c5, c6⟩ := R5.out.at
        go_wp2_with fail
        refine (HA.out _).mono ?_
        rintro e w6 ⟨rfl, hb6⟩
        have Q6 := Lib.hid (Q5.out.on hb6 (Nat.le_refl _))
        have R6 := Lib.hid (R5.out.on hb6 (Nat.le_refl _))
        have B6 := Lib.hid (below_on B5.out (B5.out.size) hb6)
        clear hb6 R5 Q5 B5 c0 c1 c2 c3 c4 c5 c6
        obtain ⟨c0, c1, c2, c3, c4, c5, c6⟩ := R6.out.at
        have l6 := R6.out.lt
        unfold St7
        have hw1 := HW1.out
        go_wp2_with fail
        clear hw1
        refine (HX.out _).mono ?_
        rintro e w7 ⟨rfl, hb7⟩
        have P7 := Lib.hid (StRow.new _ _ _ _ _ _ _ hb7)
        have Q7 := Lib.hid (Q6.out.onA _ hb7)
        have R7 := Lib.hid (R6.out.onA _ hb7)
        have B7 := Lib.hid (below_onA B6.out (B6.out.size) _ hb7)
        clear hb7 R6 Q6 B6 c0 c1 c2 c3 c4 c5 c6
        unfold St7
        go_wp2_with fail
        refine (HV.out _).mono ?_
        rintro e w8 ⟨rfl, hb8⟩
        have X8 := Lib.hid (StRow.new _ _ _ _ _ _ _ hb8)
        have P8 := Lib.hid (P7.out.onA _ hb8)
        have Q8 := Lib.hid (Q7.out.onA _ hb8)
        have R8 := Lib.hid (R7.out.onA _ hb8)
        have B8 := Lib.hid (below_onA B7.out (B7.out.size) _ hb8)
        clear hb8 R7 Q7 P7 B7
        unfold St7
        have lq := Q8.out.lt
        have lr := R8.out.lt
        have lp := P8.out.lt
        have lx := X8.out.lt
        obtain ⟨c0, c1, c2, c3, c4, c5, c6⟩ := R8.out.at
        obtain ⟨q0, q1, q2, q3, q4, q5, q6⟩ := Q8.out.at
        obtain ⟨p0, p1, p2, p3, p4, p5, p6⟩ := P8.out.at
        obtain ⟨x0, x1, x2, x3, x4, x5, x6⟩ := X8.out.at
        have hw1 := HW1.out
        go_upto_region 9 with fail
        simp only [List.append_eq, List.cons_append, List.nil_append]
        go_wp2_with fail
        refine (HSX.out _).mono ?_
        rintro e w9 ⟨rfl, hb9⟩
        have V9 := Lib.hid (StRow.new _ _ _ _ _ _ _ hb9)
        have X9 := Lib.hid (X8.out.onA _ hb9)
        have R9 := Lib.hid (R8.out.onA _ hb9)
        have B9 := Lib.hid (below_onA B8.out (B8.out.size) _ hb9)
        clear hb9 c0 c1 c2 c3 c4 c5 c6 q0 q1 q2 q3 q4 q5 q6 p0 p1 p2 p3 p4 p5 p6 x0 x1 x2 x3 x4 x5 x6
        obtain ⟨c0, c1, c2, c3, c4, c5, c6⟩ := R9.out.at
        obtain ⟨x0, x1, x2, x3, x4, x5, x6⟩ := X9.out.at
        obtain ⟨v0, v1, v2, v3, v4, v5, v6⟩ := V9.out.at
        go_wp2_with fail
        refine (HSV.out _).mono ?_
        rintro e w10 ⟨rfl, hb10⟩
        have V10 := Lib.hid (V9.out.on hb10 (Nat.le_refl _))
        have B10 := Lib.hid (below_on B9.out (B9.out.size) hb10)
        clear v0 v1 v2 v3 v4 v5 v6
        clear hb10
        obtain ⟨v0, v1, v2, v3, v4, v5, v6⟩ := V10.out.at
        go_wp2_with fail
        go_ret
        exact ⟨rfl, B10.out⟩
    · skip
      obtain ⟨rfl, _, rv, rfl, ev⟩ := hvy
      have HSV := Lib.hid (fun w => by have := seconds_any vy vmo vd vh vmi vs vz w rv; rw [ev] at this; exact this : ∀ w, Calls Tryd.prog 10 #[.agg #[.int .i64 vy, .int .i64 vmo, .int .i64 vd, .int .i64 vh, .int .i64 vmi, .int .i64 vs, .int .i64 vz]] w fun e w' => e = .returned (.int .i64 n) ∧ Below w.heap.size w w')
      clear rv ev
      obtain ⟨rfl, _, _⟩ := hxn
      clear HXC HVC HXS
      go_enter Tryd.func4, Tryd.ntmps4
      go_wp2_with fail
      refine (awake_any _).mono ?_
      rintro e w1 ⟨rfl, hb1⟩
      have R1 := Lib.hid (StRow.new _ _ _ _ _ _ _ hb1)
      have B1 := Lib.hid (below_onA (Below.refl w.heap.size w) (Nat.le_refl _) _ hb1)
      clear hb1
      obtain ⟨c0, c1, c2, c3, c4, c5, c6⟩ := R1.out.at
      go_wp2_with fail
      refine (rright_yes _ _ _ _ _ _ _ _ HR.out).mono ?_
      rintro e w2 ⟨rfl, hb2⟩
      have R2 := Lib.hid (R1.out.on hb2 (Nat.le_refl _))
      have B2 := Lib.hid (below_on B1.out (B1.out.size) hb2)
      clear hb2 c0 c1 c2 c3 c4 c5 c6 R1 B1
      obtain ⟨c0, c1, c2, c3, c4, c5, c6⟩ := R2.out.at
      go_wp2_with fail
      refine (HP.out _ (tab_below HT.out B2.out (Nat.le_refl _))).mono ?_
      rintro e w3 ⟨rfl, hb3⟩
      have R3 := Lib.hid (R2.out.on hb3 (Nat.le_refl _))
      have B3 := Lib.hid (below_on B2.out (B2.out.size) hb3)
      clear hb3 c0 c1 c2 c3 c4 c5 c6 R2 B2
      go_wp2_with fail
      refine (HQ.out _).mono ?_
      rintro e w4 ⟨rfl, hb4⟩
      have R4 := Lib.hid (R3.out.on hb4 (Nat.le_refl _))
      have B4 := Lib.hid (below_on B3.out (B3.out.size) hb4)
      clear hb4 R3 B3
      obtain ⟨c0, c1, c2, c3, c4, c5, c6⟩ := R4.out.at
      have l4 := R4.out.lt
      unfold St7
      go_wp2_with fail
      refine (HS.out _).mono ?_
      rintro e w5 ⟨rfl, hb5⟩
      have Q5 := Lib.hid (StRow.new _ _ _ _ _ _ _ hb5)
      have R5 := Lib.hid (R4.out.onA _ hb5)
      have B5 := Lib.hid (below_onA B4.out (B4.out.size) _ hb5)
      clear hb5 R4 B4 c0 c1 c2 c3 c4 c5 c6
      obtain ⟨c0, c1, c2, c3, c4, c5, c6⟩ := R5.out.at
      go_wp2_with fail
      refine (HA.out _).mono ?_
      rintro e w6 ⟨rfl, hb6⟩
      have Q6 := Lib.hid (Q5.out.on hb6 (Nat.le_refl _))
      have R6 := Lib.hid (R5.out.on hb6 (Nat.le_refl _))
      have B6 := Lib.hid (below_on B5.out (B5.out.size) hb6)
      clear hb6 R5 Q5 B5 c0 c1 c2 c3 c4 c5 c6
      obtain ⟨c0, c1, c2, c3, c4, c5, c6⟩ := R6.out.at
      have l6 := R6.out.lt
      unfold St7
      have hw1 := HW1.out
      go_wp2_with fail
      clear hw1
      refine (HX.out _).mono ?_
      rintro e w7 ⟨rfl, hb7⟩
      have P7 := Lib.hid (StRow.new _ _ _ _ _ _ _ hb7)
      have Q7 := Lib.hid (Q6.out.onA _ hb7)
      have R7 := Lib.hid (R6.out.onA _ hb7)
      have B7 := Lib.hid (below_onA B6.out (B6.out.size) _ hb7)
      clear hb7 R6 Q6 B6 c0 c1 c2 c3 c4 c5 c6
      unfold St7
      go_wp2_with fail
      refine (HV.out _).mono ?_
      rintro e w8 ⟨rfl, hb8⟩
      have X8 := Lib.hid (StRow.new _ _ _ _ _ _ _ hb8)
      have P8 := Lib.hid (P7.out.onA _ hb8)
      have Q8 := Lib.hid (Q7.out.onA _ hb8)
      have R8 := Lib.hid (R7.out.onA _ hb8)
      have B8 := Lib.hid (below_onA B7.out (B7.out.size) _ hb8)
      clear hb8 R7 Q7 P7 B7
      unfold St7
      have lq := Q8.out.lt
      have lr := R8.out.lt
      have lp := P8.out.lt
      have lx := X8.out.lt
      obtain ⟨c0, c1, c2, c3, c4, c5, c6⟩ := R8.out.at
      obtain ⟨q0, q1, q2, q3, q4, q5, q6⟩ := Q8.out.at
      obtain ⟨p0, p1, p2, p3, p4, p5, p6⟩ := P8.out.at
      obtain ⟨x0, x1, x2, x3, x4, x5, x6⟩ := X8.out.at
      have hw1 := HW1.out
      go_upto_region 9 with fail
      simp only [List.append_eq, List.cons_append, List.nil_append]
      go_wp2_with fail
      refine (HSV.out _).mono ?_
      rintro e w10 ⟨rfl, hb10⟩
      have V10 := Lib.hid (StRow.new _ _ _ _ _ _ _ hb10)
      have B10 := Lib.hid (below_onA B8.out (B8.out.size) _ hb10)
      clear hb10
      obtain ⟨v0, v1, v2, v3, v4, v5, v6⟩ := V10.out.at
      go_wp2_with fail
      go_ret
      exact ⟨rfl, B10.out⟩
  · rcases HXC.out with hxy | hxn
    · by_cases hs59 : s = 59
      · skip
        obtain ⟨rfl, _, _⟩ := hvn
        obtain ⟨rfl, _, rx, hxz, ex⟩ := hxy
        subst hxz
        subst hs59
        have HSX := Lib.hid (fun w => by have := seconds_any _ _ _ _ _ _ _ w rx; rw [ex] at this; exact this : ∀ w, Calls Tryd.prog 10 #[.agg #[.int .i64 xy, .int .i64 xmo, .int .i64 xd, .int .i64 xh, .int .i64 xmi, .int .i64 xs, .int .i64 xz]] w fun e w' => e = .returned (.int .i64 (n + 1)) ∧ Below w.heap.size w w')
        clear rx ex
        clear HXC HVC HXS
        go_enter Tryd.func4, Tryd.ntmps4
        go_wp2_with fail
        refine (awake_any _).mono ?_
        rintro e w1 ⟨rfl, hb1⟩
        have R1 := Lib.hid (StRow.new _ _ _ _ _ _ _ hb1)
        have B1 := Lib.hid (below_onA (Below.refl w.heap.size w) (Nat.le_refl _) _ hb1)
        clear hb1
        obtain ⟨c0, c1, c2, c3, c4, c5, c6⟩ := R1.out.at
        go_wp2_with fail
        refine (rright_yes _ _ _ _ _ _ _ _ HR.out).mono ?_
        rintro e w2 ⟨rfl, hb2⟩
        have R2 := Lib.hid (R1.out.on hb2 (Nat.le_refl _))
        have B2 := Lib.hid (below_on B1.out (B1.out.size) hb2)
        clear hb2 c0 c1 c2 c3 c4 c5 c6 R1 B1
        obtain ⟨c0, c1, c2, c3, c4, c5, c6⟩ := R2.out.at
        go_wp2_with fail
        refine (HP.out _ (tab_below HT.out B2.out (Nat.le_refl _))).mono ?_
        rintro e w3 ⟨rfl, hb3⟩
        have R3 := Lib.hid (R2.out.on hb3 (Nat.le_refl _))
        have B3 := Lib.hid (below_on B2.out (B2.out.size) hb3)
        clear hb3 c0 c1 c2 c3 c4 c5 c6 R2 B2
        go_wp2_with fail
        refine (HQ.out _).mono ?_
        rintro e w4 ⟨rfl, hb4⟩
        have R4 := Lib.hid (R3.out.on hb4 (Nat.le_refl _))
        have B4 := Lib.hid (below_on B3.out (B3.out.size) hb4)
        clear hb4 R3 B3
        obtain ⟨c0, c1, c2, c3, c4, c5, c6⟩ := R4.out.at
        have l4 := R4.out.lt
        unfold St7
        go_wp2_with fail
        refine (HS.out _).mono ?_
        rintro e w5 ⟨rfl, hb5⟩
        have Q5 := Lib.hid (StRow.new _ _ _ _ _ _ _ hb5)
        have R5 := Lib.hid (R4.out.onA _ hb5)
        have B5 := Lib.hid (below_onA B4.out (B4.out.size) _ hb5)
        clear hb5 R4 B4 c0 c1 c2 c3 c4 c5 c6
        obtain ⟨c0, c1, c2, c3, c4, c5, c6⟩ := R5.out.at
        go_wp2_with fail
        refine (HA.out _).mono ?_
        rintro e w6 ⟨rfl, hb6⟩
        have Q6 := Lib.hid (Q5.out.on hb6 (Nat.le_refl _))
        have R6 := Lib.hid (R5.out.on hb6 (Nat.le_refl _))
        have B6 := Lib.hid (below_on B5.out (B5.out.size) hb6)
        clear hb6 R5 Q5 B5 c0 c1 c2 c3 c4 c5 c6
        obtain ⟨c0, c1, c2, c3, c4, c5, c6⟩ := R6.out.at
        have l6 := R6.out.lt
        unfold St7
        have hw1 := HW1.out
        go_wp2_with fail
        clear hw1
        refine (HX.out _).mono ?_
        rintro e w7 ⟨rfl, hb7⟩
        have P7 := Lib.hid (StRow.new _ _ _ _ _ _ _ hb7)
        have Q7 := Lib.hid (Q6.out.onA _ hb7)
        have R7 := Lib.hid (R6.out.onA _ hb7)
        have B7 := Lib.hid (below_onA B6.out (B6.out.size) _ hb7)
        clear hb7 R6 Q6 B6 c0 c1 c2 c3 c4 c5 c6
        unfold St7
        go_wp2_with fail
        refine (HV.out _).mono ?_
        rintro e w8 ⟨rfl, hb8⟩
        have X8 := Lib.hid (StRow.new _ _ _ _ _ _ _ hb8)
        have P8 := Lib.hid (P7.out.onA _ hb8)
        have Q8 := Lib.hid (Q7.out.onA _ hb8)
        have R8 := Lib.hid (R7.out.onA _ hb8)
        have B8 := Lib.hid (below_onA B7.out (B7.out.size) _ hb8)
        clear hb8 R7 Q7 P7 B7
        unfold St7
        have lq := Q8.out.lt
        have lr := R8.out.lt
        have lp := P8.out.lt
        have lx := X8.out.lt
        obtain ⟨c0, c1, c2, c3, c4, c5, c6⟩ := R8.out.at
        obtain ⟨q0, q1, q2, q3, q4, q5, q6⟩ := Q8.out.at
        obtain ⟨p0, p1, p2, p3, p4, p5, p6⟩ := P8.out.at
        obtain ⟨x0, x1, x2, x3, x4, x5, x6⟩ := X8.out.at
        have hw1 := HW1.out
        go_upto_region 9 with fail
        simp only [List.append_eq, List.cons_append, List.nil_append]
        go_wp2_with fail
        refine (HSX.out _).mono ?_
        rintro e w9 ⟨rfl, hb9⟩
        have V9 := Lib.hid (StRow.new _ _ _ _ _ _ _ hb9)
        have X9 := Lib.hid (X8.out.onA _ hb9)
        have R9 := Lib.hid (R8.out.onA _ hb9)
        have B9 := Lib.hid (below_onA B8.out (B8.out.size) _ hb9)
        clear hb9 c0 c1 c2 c3 c4 c5 c6 q0 q1 q2 q3 q4 q5 q6 p0 p1 p2 p3 p4 p5 p6 x0 x1 x2 x3 x4 x5 x6
        obtain ⟨c0, c1, c2, c3, c4, c5, c6⟩ := R9.out.at
        obtain ⟨x0, x1, x2, x3, x4, x5, x6⟩ := X9.out.at
        obtain ⟨v0, v1, v2, v3, v4, v5, v6⟩ := V9.out.at
        go_wp2_with fail
        go_ret
        exact ⟨rfl, B9.out⟩
      · have hsd : xs = s + 1 ∧ xd = d := by rcases HXS.out hxy.1 with h | h; exact absurd h hs59; exact h
        obtain ⟨rfl, _, _⟩ := hvn
        obtain ⟨rfl, _, rx, hxz, ex⟩ := hxy
        subst hxz
        have h59 : (s == 59) = false := by simp [hs59]
        have hws : IntKind.i64.wrap (s + 1) = s + 1 := IntWalk.i64_in _ (by omega)
        clear hs59
        obtain ⟨rfl, rfl⟩ := hsd
        have HSX := Lib.hid (fun w => by have := seconds_any _ _ _ _ _ _ _ w rx; rw [ex] at this; exact this : ∀ w, Calls Tryd.prog 10 #[.agg #[.int .i64 xy, .int .i64 xmo, .int .i64 xd, .int .i64 xh, .int .i64 xmi, .int .i64 (s + 1), .int .i64 xz]] w fun e w' => e = .returned (.int .i64 (n + 1)) ∧ Below w.heap.size w w')
        clear rx ex
        clear HXC HVC HXS
        go_enter Tryd.func4, Tryd.ntmps4
        go_wp2_with fail
        refine (awake_any _).mono ?_
        rintro e w1 ⟨rfl, hb1⟩
        have R1 := Lib.hid (StRow.new _ _ _ _ _ _ _ hb1)
        have B1 := Lib.hid (below_onA (Below.refl w.heap.size w) (Nat.le_refl _) _ hb1)
        clear hb1
        obtain ⟨c0, c1, c2, c3, c4, c5, c6⟩ := R1.out.at
        go_wp2_with fail
        refine (rright_yes _ _ _ _ _ _ _ _ HR.out).mono ?_
        rintro e w2 ⟨rfl, hb2⟩
        have R2 := Lib.hid (R1.out.on hb2 (Nat.le_refl _))
        have B2 := Lib.hid (below_on B1.out (B1.out.size) hb2)
        clear hb2 c0 c1 c2 c3 c4 c5 c6 R1 B1
        obtain ⟨c0, c1, c2, c3, c4, c5, c6⟩ := R2.out.at
        go_wp2_with fail
        refine (HP.out _ (tab_below HT.out B2.out (Nat.le_refl _))).mono ?_
        rintro e w3 ⟨rfl, hb3⟩
        have R3 := Lib.hid (R2.out.on hb3 (Nat.le_refl _))
        have B3 := Lib.hid (below_on B2.out (B2.out.size) hb3)
        clear hb3 c0 c1 c2 c3 c4 c5 c6 R2 B2
        go_wp2_with fail
        refine (HQ.out _).mono ?_
        rintro e w4 ⟨rfl, hb4⟩
        have R4 := Lib.hid (R3.out.on hb4 (Nat.le_refl _))
        have B4 := Lib.hid (below_on B3.out (B3.out.size) hb4)
        clear hb4 R3 B3
        obtain ⟨c0, c1, c2, c3, c4, c5, c6⟩ := R4.out.at
        have l4 := R4.out.lt
        unfold St7
        go_wp2_with fail
        refine (HS.out _).mono ?_
        rintro e w5 ⟨rfl, hb5⟩
        have Q5 := Lib.hid (StRow.new _ _ _ _ _ _ _ hb5)
        have R5 := Lib.hid (R4.out.onA _ hb5)
        have B5 := Lib.hid (below_onA B4.out (B4.out.size) _ hb5)
        clear hb5 R4 B4 c0 c1 c2 c3 c4 c5 c6
        obtain ⟨c0, c1, c2, c3, c4, c5, c6⟩ := R5.out.at
        go_wp2_with fail
        refine (HA.out _).mono ?_
        rintro e w6 ⟨rfl, hb6⟩
        have Q6 := Lib.hid (Q5.out.on hb6 (Nat.le_refl _))
        have R6 := Lib.hid (R5.out.on hb6 (Nat.le_refl _))
        have B6 := Lib.hid (below_on B5.out (B5.out.size) hb6)
        clear hb6 R5 Q5 B5 c0 c1 c2 c3 c4 c5 c6
        obtain ⟨c0, c1, c2, c3, c4, c5, c6⟩ := R6.out.at
        have l6 := R6.out.lt
        unfold St7
        have hw1 := HW1.out
        go_wp2_with fail
        clear hw1
        refine (HX.out _).mono ?_
        rintro e w7 ⟨rfl, hb7⟩
        have P7 := Lib.hid (StRow.new _ _ _ _ _ _ _ hb7)
        have Q7 := Lib.hid (Q6.out.onA _ hb7)
        have R7 := Lib.hid (R6.out.onA _ hb7)
        have B7 := Lib.hid (below_onA B6.out (B6.out.size) _ hb7)
        clear hb7 R6 Q6 B6 c0 c1 c2 c3 c4 c5 c6
        unfold St7
        go_wp2_with fail
        refine (HV.out _).mono ?_
        rintro e w8 ⟨rfl, hb8⟩
        have X8 := Lib.hid (StRow.new _ _ _ _ _ _ _ hb8)
        have P8 := Lib.hid (P7.out.onA _ hb8)
        have Q8 := Lib.hid (Q7.out.onA _ hb8)
        have R8 := Lib.hid (R7.out.onA _ hb8)
        have B8 := Lib.hid (below_onA B7.out (B7.out.size) _ hb8)
        clear hb8 R7 Q7 P7 B7
        unfold St7
        have lq := Q8.out.lt
        have lr := R8.out.lt
        have lp := P8.out.lt
        have lx := X8.out.lt
        obtain ⟨c0, c1, c2, c3, c4, c5, c6⟩ := R8.out.at
        obtain ⟨q0, q1, q2, q3, q4, q5, q6⟩ := Q8.out.at
        obtain ⟨p0, p1, p2, p3, p4, p5, p6⟩ := P8.out.at
        obtain ⟨x0, x1, x2, x3, x4, x5, x6⟩ := X8.out.at
        have hw1 := HW1.out
        go_upto_region 9 with fail
        simp only [List.append_eq, List.cons_append, List.nil_append]
        go_wp2_with fail
        refine (HSX.out _).mono ?_
        rintro e w9 ⟨rfl, hb9⟩
        have V9 := Lib.hid (StRow.new _ _ _ _ _ _ _ hb9)
        have X9 := Lib.hid (X8.out.onA _ hb9)
        have R9 := Lib.hid (R8.out.onA _ hb9)
        have B9 := Lib.hid (below_onA B8.out (B8.out.size) _ hb9)
        clear hb9 c0 c1 c2 c3 c4 c5 c6 q0 q1 q2 q3 q4 q5 q6 p0 p1 p2 p3 p4 p5 p6 x0 x1 x2 x3 x4 x5 x6
        obtain ⟨c0, c1, c2, c3, c4, c5, c6⟩ := R9.out.at
        obtain ⟨x0, x1, x2, x3, x4, x5, x6⟩ := X9.out.at
        obtain ⟨v0, v1, v2, v3, v4, v5, v6⟩ := V9.out.at
        go_wp2_with fail
        go_ret
        exact ⟨rfl, B9.out⟩
    · skip
      obtain ⟨rfl, _, _⟩ := hvn
      obtain ⟨rfl, _, _⟩ := hxn
      clear HXC HVC HXS
      go_enter Tryd.func4, Tryd.ntmps4
      go_wp2_with fail
      refine (awake_any _).mono ?_
      rintro e w1 ⟨rfl, hb1⟩
      have R1 := Lib.hid (StRow.new _ _ _ _ _ _ _ hb1)
      have B1 := Lib.hid (below_onA (Below.refl w.heap.size w) (Nat.le_refl _) _ hb1)
      clear hb1
      obtain ⟨c0, c1, c2, c3, c4, c5, c6⟩ := R1.out.at
      go_wp2_with fail
      refine (rright_yes _ _ _ _ _ _ _ _ HR.out).mono ?_
      rintro e w2 ⟨rfl, hb2⟩
      have R2 := Lib.hid (R1.out.on hb2 (Nat.le_refl _))
      have B2 := Lib.hid (below_on B1.out (B1.out.size) hb2)
      clear hb2 c0 c1 c2 c3 c4 c5 c6 R1 B1
      obtain ⟨c0, c1, c2, c3, c4, c5, c6⟩ := R2.out.at
      go_wp2_with fail
      refine (HP.out _ (tab_below HT.out B2.out (Nat.le_refl _))).mono ?_
      rintro e w3 ⟨rfl, hb3⟩
      have R3 := Lib.hid (R2.out.on hb3 (Nat.le_refl _))
      have B3 := Lib.hid (below_on B2.out (B2.out.size) hb3)
      clear hb3 c0 c1 c2 c3 c4 c5 c6 R2 B2
      go_wp2_with fail
      refine (HQ.out _).mono ?_
      rintro e w4 ⟨rfl, hb4⟩
      have R4 := Lib.hid (R3.out.on hb4 (Nat.le_refl _))
      have B4 := Lib.hid (below_on B3.out (B3.out.size) hb4)
      clear hb4 R3 B3
      obtain ⟨c0, c1, c2, c3, c4, c5, c6⟩ := R4.out.at
      have l4 := R4.out.lt
      unfold St7
      go_wp2_with fail
      refine (HS.out _).mono ?_
      rintro e w5 ⟨rfl, hb5⟩
      have Q5 := Lib.hid (StRow.new _ _ _ _ _ _ _ hb5)
      have R5 := Lib.hid (R4.out.onA _ hb5)
      have B5 := Lib.hid (below_onA B4.out (B4.out.size) _ hb5)
      clear hb5 R4 B4 c0 c1 c2 c3 c4 c5 c6
      obtain ⟨c0, c1, c2, c3, c4, c5, c6⟩ := R5.out.at
      go_wp2_with fail
      refine (HA.out _).mono ?_
      rintro e w6 ⟨rfl, hb6⟩
      have Q6 := Lib.hid (Q5.out.on hb6 (Nat.le_refl _))
      have R6 := Lib.hid (R5.out.on hb6 (Nat.le_refl _))
      have B6 := Lib.hid (below_on B5.out (B5.out.size) hb6)
      clear hb6 R5 Q5 B5 c0 c1 c2 c3 c4 c5 c6
      obtain ⟨c0, c1, c2, c3, c4, c5, c6⟩ := R6.out.at
      have l6 := R6.out.lt
      unfold St7
      have hw1 := HW1.out
      go_wp2_with fail
      clear hw1
      refine (HX.out _).mono ?_
      rintro e w7 ⟨rfl, hb7⟩
      have P7 := Lib.hid (StRow.new _ _ _ _ _ _ _ hb7)
      have Q7 := Lib.hid (Q6.out.onA _ hb7)
      have R7 := Lib.hid (R6.out.onA _ hb7)
      have B7 := Lib.hid (below_onA B6.out (B6.out.size) _ hb7)
      clear hb7 R6 Q6 B6 c0 c1 c2 c3 c4 c5 c6
      unfold St7
      go_wp2_with fail
      refine (HV.out _).mono ?_
      rintro e w8 ⟨rfl, hb8⟩
      have X8 := Lib.hid (StRow.new _ _ _ _ _ _ _ hb8)
      have P8 := Lib.hid (P7.out.onA _ hb8)
      have Q8 := Lib.hid (Q7.out.onA _ hb8)
      have R8 := Lib.hid (R7.out.onA _ hb8)
      have B8 := Lib.hid (below_onA B7.out (B7.out.size) _ hb8)
      clear hb8 R7 Q7 P7 B7
      unfold St7
      have lq := Q8.out.lt
      have lr := R8.out.lt
      have lp := P8.out.lt
      have lx := X8.out.lt
      obtain ⟨c0, c1, c2, c3, c4, c5, c6⟩ := R8.out.at
      obtain ⟨q0, q1, q2, q3, q4, q5, q6⟩ := Q8.out.at
      obtain ⟨p0, p1, p2, p3, p4, p5, p6⟩ := P8.out.at
      obtain ⟨x0, x1, x2, x3, x4, x5, x6⟩ := X8.out.at
      have hw1 := HW1.out
      go_upto_region 9 with fail
      simp only [List.append_eq, List.cons_append, List.nil_append]
      go_wp2_with fail
      go_ret
      exact ⟨rfl, B8.out.alloc B8.out.size _⟩

set_option maxRecDepth 100000 in
set_option maxHeartbeats 2000000 in
theorem back_no (y mo d h mi s z zb : Int) (w : World) (n : ¬ RightS y mo d h mi s z) : Calls Tryd.prog 4 #[.agg #[.int .i64 y, .int .i64 mo, .int .i64 d, .int .i64 h, .int .i64 mi, .int .i64 s, .int .i64 z], .int .i64 zb] w fun e w' => e = .returned (.bool true) ∧ Below w.heap.size w w' := by
  have N := Lib.hid n
  clear n
  go_enter Tryd.func4, Tryd.ntmps4
  go_wp2_with fail
  refine (awake_any _).mono ?_
  rintro e w1 ⟨rfl, hb1⟩
  have R1 := Lib.hid (StRow.new _ _ _ _ _ _ _ hb1)
  have B1 := Lib.hid (below_onA (Below.refl w.heap.size w) (Nat.le_refl _) _ hb1)
  clear hb1
  obtain ⟨c0, c1, c2, c3, c4, c5, c6⟩ := R1.out.at
  go_wp2_with fail
  refine (rright_no _ _ _ _ _ _ _ _ N.out).mono ?_
  rintro e w2 ⟨rfl, hb2⟩
  have B2 := Lib.hid (below_on B1.out (B1.out.size) hb2)
  clear hb2 c0 c1 c2 c3 c4 c5 c6 R1 B1
  go_wp2_with fail
  refine (awake_any _).mono ?_
  rintro e w3 ⟨rfl, hb3⟩
  have B3 := Lib.hid (below_on B2.out (B2.out.size) hb3)
  clear hb3 B2
  go_wp2_with fail
  go_ret
  exact ⟨rfl, B3.out⟩

theorem back_any (K : ItoaC) (y mo d h mi s z zb : Int) (w : World) (ht : TabIs Tryd.prog w "internal/strconv.uint64pow10" .u64 pow10Tab) : Calls Tryd.prog 4 #[.agg #[.int .i64 y, .int .i64 mo, .int .i64 d, .int .i64 h, .int .i64 mi, .int .i64 s, .int .i64 z], .int .i64 zb] w fun e w' => e = .returned (.bool true) ∧ Below w.heap.size w w' := by
  by_cases r : RightS y mo d h mi s z
  · exact back_yes K y mo d h mi s z zb w ht r
  · exact back_no y mo d h mi s z zb w r
end Go.Proofs.YthcgdbmcpnmeeaaDoor
