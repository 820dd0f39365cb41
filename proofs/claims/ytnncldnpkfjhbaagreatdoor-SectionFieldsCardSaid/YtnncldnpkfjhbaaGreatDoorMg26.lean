/-
  Several texts of one proof, each in a section of its own: SecO2, SecW, SecO0, SecO1.
-/
import Derived.Test.YtnncldnpkfjhbaaGreatDoorMg25
namespace Go.Proofs.YtnncldnpkfjhbaaGreatDoor
section
set_option linter.unusedVariables false
open Go.RowKit Go.Lib Go.Shelf Go.Joins
attribute [local go_sem] Oper.semAt_some
set_option maxRecDepth 100000 in
set_option maxHeartbeats 4000000 in
theorem of2_any (v pv fv : Value) (l : List Nat) (S : List ByteArray) (w : World) (hr : RowB w v l) (hl : l.length ≤ 100000) (hL : IntsIn w pv []) (hS : StrsIn w fv S) (hSl : S.length ≤ 1000000) :
    Calls Tryz.prog 7 #[v, .agg #[pv, .int .i64 2, fv]] w (OfOk l 2 [] S w) := by
  obtain ⟨a, cap, rfl⟩ : ∃ a c, v = .slice a l.length c := by obtain ⟨a, len, c, e, h, _⟩ := hr; exact ⟨a, c, by rw [e, h]⟩
  obtain ⟨pa, pc, rfl, hpc, -, -⟩ := id hL
  simp only [List.length_nil] at hL
  have hb0 := ((Below.refl w.heap.size w).alloc (Nat.le_refl _) (.cells #[.slice pa 0 pc, .int .i64 2, fv] 29)).alloc (by simp) (.cells kindsV 48)
  have hx := heap_alloc_new (w.alloc (.cells #[.slice pa 0 pc, .int .i64 2, fv] 29)) (.cells kindsV 48)
  have hsz : (w.alloc (.cells #[.slice pa 0 pc, .int .i64 2, fv] 29)).heap.size = w.heap.size + 1 := by simp
  rw [hsz] at hx
  have hy : ((w.alloc (.cells #[.slice pa 0 pc, .int .i64 2, fv] 29)).alloc (.cells kindsV 48)).heap[w.heap.size]? = _ := (Below.heap_alloc _ _ _ (by simp)).trans (heap_alloc_new w _)
  have HFI := Lib.hid (find_any (.slice a l.length cap) (.slice pa 0 pc) l [] _ (hr.below hb0) hl (hL.below hb0) (by simp))
  have H0 := Lib.hid (And.intro hr (And.intro hS (And.intro hb0 (And.intro hx (And.intro hy (And.intro hl hSl))))))
  have hsz2 : ((w.alloc (.cells #[.slice pa 0 pc, .int .i64 2, fv] 29)).alloc (.cells kindsV 48)).heap.size = w.heap.size + 2 := by simp
  have HSZ := Lib.hid hsz2
  clear hr hS hb0 hx hy hl hSl hL hpc hsz hsz2
  go_enter Tryz.func7, Tryz.ntmps7
  go_upto_region 5 with (go_at_call 11; refine HFI.out.mono ?_; rintro e w1 ⟨u, q, ok, rfl, hu, hok1, hok2, hb1⟩; obtain ⟨k, K0, S0, h0, f0, t0, n0, ka, kn, kc, rfl, hpv, hfacts⟩ := hu.open)
  have hs1 := hb1.size
  rw [HSZ.out] at hs1
  have hbw : Below w.heap.size w (w1.alloc (.cells #[.string K0, .string S0, .int .i64 (h0 : Nat), .int .i64 (f0 : Nat), .int .i64 (t0 : Nat), .int .i64 (n0 : Nat), .slice ka kn kc] 37)) := (H0.out.2.2.1.trans (hb1.mono (by simp; omega))).alloc (by omega) _
  have hz := heap_alloc_new w1 (.cells #[.string K0, .string S0, .int .i64 (h0 : Nat), .int .i64 (f0 : Nat), .int .i64 (t0 : Nat), .int .i64 (n0 : Nat), .slice ka kn kc] 37)
  have hx4 : (w1.alloc (.cells #[.string K0, .string S0, .int .i64 (h0 : Nat), .int .i64 (f0 : Nat), .int .i64 (t0 : Nat), .int .i64 (n0 : Nat), .slice ka kn kc] 37)).heap[w.heap.size + 1]? = _ := ((Below.heap_alloc _ _ _ (by omega)).trans (hb1.block _ (by rw [HSZ.out]; omega))).trans H0.out.2.2.2.1
  have hy4 : (w1.alloc (.cells #[.string K0, .string S0, .int .i64 (h0 : Nat), .int .i64 (f0 : Nat), .int .i64 (t0 : Nat), .int .i64 (n0 : Nat), .slice ka kn kc] 37)).heap[w.heap.size]? = _ := ((Below.heap_alloc _ _ _ (by omega)).trans (hb1.block _ (by rw [HSZ.out]; omega))).trans H0.out.2.2.2.2.1
  obtain ⟨z, hzz⟩ : ∃ z, w1.heap.size = z := ⟨_, rfl⟩
  rw [hzz] at hz ⊢
  generalize w1.alloc (.cells #[.string K0, .string S0, .int .i64 (h0 : Nat), .int .i64 (f0 : Nat), .int .i64 (t0 : Nat), .int .i64 (n0 : Nat), .slice ka kn kc] 37) = W4 at *
  cases ok with
  | false =>
    have HF := Lib.hid (And.intro (hok2 rfl) hbw)
    clear hok1 hok2 hbw hb1 hu hpv hfacts hs1 hz hx4 hy4 hzz HFI
    go_wp2_with fail
    exact bodyPost_ret (results_tmp2 rfl _ _ _) rfl ⟨_, _, rfl, by simp, fun _ => ⟨HF.out.1, rfl⟩, HF.out.2⟩
  | true =>
    have hq := hok1 rfl
    have hqf := (OkPart.find [] (root_ok l) hq).facts
    obtain ⟨-, -, e2, e3, e4, -⟩ := hfacts
    have g1 : h0 ≤ f0 := by omega
    have g2 : f0 ≤ t0 := by omega
    have g3 : t0 ≤ l.length := by omega
    have hr4 := H0.out.1.below hbw.drew
    have hS4 := H0.out.2.1.below hbw.drew
    have hl := H0.out.2.2.2.2.2.1
    have hSl := H0.out.2.2.2.2.2.2
    have hway : Calls Tryz.prog 15 #[.agg #[.slice a l.length cap, .slice pa 0 pc, .int .i64 2, fv, .string K0, .string S0, .int .i64 (h0 : Nat), .int .i64 (f0 : Nat), .int .i64 (t0 : Nat), .int .i64 (n0 : Nat), .slice ka kn kc]] W4.drew (WayOk W4.drew (rngS l f0 t0) true) := text_any a cap l pa pc 2 fv K0 S0 h0 f0 t0 n0 ka kn kc W4.drew hr4 g1 g2 g3
    obtain ⟨m0, m1, m2, m3, m4, m5, m6⟩ := cells7 hz
    have c0 := cell_of_row W4 w.heap.size 0 _ _ _ hy4
    have c1 := cell_of_row W4 w.heap.size 1 _ _ _ hy4
    have c2 := cell_of_row W4 w.heap.size 2 _ _ _ hy4
    have k0 : W4.cell? ⟨w.heap.size + 1, 2, none⟩ = some (.func (.func 15) #[] #[]) := (cell_of_row W4 (w.heap.size + 1) 2 _ _ _ hx4).trans rfl
    have HW := Lib.hid hway
    have HAS : Hid (askS l 2 [] S q = (rngS l f0 t0)) := Lib.hid (by
      unfold askS
      simp [e3, e4])
    have HE := Lib.hid (And.intro hbw (And.intro hq (And.intro g1 (And.intro g2 (And.intro g3 hl)))))
    have HML : Hid ((rngS l f0 t0).length ≤ 140737488351232) := Lib.hid (by
      rw [rngS_len g3]; omega)
    obtain ⟨ML, hML⟩ : ∃ ML, (rngS l f0 t0) = ML := ⟨_, rfl⟩
    rw [hML] at HW HAS HML
    clear hML
    clear hway hr4 hS4 hl hSl hbw hb1 hu hpv hs1 hz hx4 hy4 hzz HFI hok1 hok2 hq hqf e2 e3 e4 g1 g2 g3
    go_upto_region 7 with fail
    go_region_law (go_simp; go_at_call 15; refine HW.out.mono ?_; rintro e w5 ⟨o, rfl, ho, hb5⟩; have HO := Lib.hid (And.intro ho hb5); clear ho hb5)
    all_goals go_wp2_with (go_at_call 18; refine (bclone_any _ _ w5 HO.out.1 HML.out).mono ?_; rintro e w6 ⟨o6, rfl, ho6, hb6⟩)
    all_goals
      have h5 := HE.out.1.size
      have h6 := HO.out.2.size
      simp at h6
      exact bodyPost_ret (results_tmp2 rfl _ _ _) rfl ⟨_, _, rfl, fun _ => ⟨q, HE.out.2.1, by rw [HAS.out]; exact own_low ho6 (by omega)⟩, by simp, (HE.out.1.drew.trans (HO.out.2.mono (by simp; omega))).trans (hb6.mono (by omega))⟩
end
section
set_option linter.unusedVariables false
open Go.RowKit Go.Lib Go.Shelf Go.Joins
attribute [local go_sem] Oper.semAt_some

def L9 : List Nat := [65, 58, 32, 98, 13, 10, 13, 10, 120]
def B9 : Array Value := #[.int .u8 65, .int .u8 58, .int .u8 32, .int .u8 98, .int .u8 13, .int .u8 10, .int .u8 13, .int .u8 10, .int .u8 120]
theorem row9 (w : World) : RowB (w.alloc (.cells B9 5 (9, 10))) (.slice (some ⟨w.heap.size, 0, none⟩) 9 9) L9 := by
  refine ⟨_, _, _, rfl, rfl, by decide, by decide, by decide, by simp, fun x hx i hi => ?_⟩
  obtain rfl := Option.some.inj hx
  rw [Addr.add_lit, Nat.zero_add, cell_of_row _ _ i _ 5 (9, 10) (heap_alloc_new w _)]
  have hi5 : i < 9 := hi
  have : i = 0 ∨ i = 1 ∨ i = 2 ∨ i = 3 ∨ i = 4 ∨ i = 5 ∨ i = 6 ∨ i = 7 ∨ i = 8 := by omega
  rcases this with rfl | rfl | rfl | rfl | rfl | rfl | rfl | rfl | rfl <;> rfl
theorem split9 : splitS L9 = 8 := by
  rw [splitS_eq, show L9 = [65, 58, 32, 98, 13, 10] ++ ([13, 10] ++ [120]) from rfl, splitR_line line1, splitR_line line3]
  rfl
theorem ask9 : askS L9 2 [] [] (rootP L9) = [120] := by
  have h := root_facts L9
  unfold askS
  simp only [h.2.1, h.2.2, split9]
  rfl
theorem strs_nil (w : World) : StrsIn w (.slice none 0 0) [] := ⟨by simp, by decide, .inl ⟨rfl, _, _, rfl⟩⟩
theorem back_own {w : World} {B : Nat} {v : Value} {l : List UInt8} (h : OwnB w B v (l.map UInt8.toNat)) (h0 : 0 < l.length) : (convert 22 9 v).run Tryz.prog w = .ok (.string (strL l)) w := by
  obtain ⟨g, cap, rfl, -, -⟩ := h.some (by simpa using h0)
  rw [List.length_map] at h ⊢
  exact run_convert_bytes_back w 22 9 5 ⟨g, 0, none⟩ cap l Tryz.underlying22 Tryz.underlying5 Tryz.underlying9 (fun j hj => by
    have e : (⟨g, 0, none⟩ : Addr).add j = ⟨g, j, none⟩ := by simp only [Addr.add_lit, Nat.zero_add]
    rw [e, h.cell (by simp) j (by simpa using hj)]
    simp)
set_option maxRecDepth 100000 in
set_option maxHeartbeats 1000000 in
theorem awake_any (w : World) : Calls Tryz.prog 6 #[] w fun e w' => e = .returned (.bool true) ∧ Below w.heap.size w w' := by
  go_enter Tryz.func6, Tryz.ntmps6
  go_wp2_with fail
  have kc := Go.Joins.run_convert_bytes_const_at (P := Tryz.prog) w 22 5 B9 9 9 w.heap.size rfl Tryz.underlying22 Tryz.underlying5
  unfold B9 at kc
  rw [kc]
  clear kc
  have hb1 : Below w.heap.size w (w.alloc (.cells B9 5 (9, 10))) := (Below.refl _ _).alloc (Nat.le_refl _) _
  have hr1 := row9 w
  unfold B9 at hb1 hr1
  generalize w.alloc (.cells _ 5 (9, 10)) = w1 at *
  have HL := Lib.hid (of2_any _ (.slice none 0 0) (.slice none 0 0) _ [] w1 hr1 (by decide) (ints_nil _) (strs_nil _) (by simp))
  have HB1 := Lib.hid hb1
  clear hb1 hr1
  go_wp2_with fail
  refine HL.out.mono ?_
  rintro e w2 ⟨u, ok, rfl, hok1, hok2, hb2⟩
  cases ok with
  | false =>
    have := (hok2 rfl).1
    simp [findP] at this
  | true =>
    obtain ⟨q, hq, ho⟩ := hok1 rfl
    obtain rfl : rootP L9 = q := Option.some.inj hq
    rw [ask9] at ho
    have kc := back_own (l := [120]) ho (by decide)
    rw [show strL [120] = ⟨#[120]⟩ from rfl] at kc
    have HB2 := Lib.hid (HB1.out.trans (hb2.mono HB1.out.size))
    clear ho hb2 hok1 hok2 hq
    go_wp2_with fail
    go_ret
    exact ⟨rfl, HB2.out⟩
end
section
set_option linter.unusedVariables false
open Go.RowKit Go.Lib Go.Shelf Go.Joins
attribute [local go_sem] Oper.semAt_some
set_option maxRecDepth 100000 in
set_option maxHeartbeats 4000000 in
theorem of0_any (v pv fv : Value) (l : List Nat) (L : List Int) (S : List ByteArray) (w : World) (hr : RowB w v l) (hl : l.length ≤ 100000) (hL : IntsIn w pv L) (hLl : L.length ≤ 1000000) (hS : StrsIn w fv S) (hSl : S.length ≤ 1000000) :
    Calls Tryz.prog 7 #[v, .agg #[pv, .int .i64 0, fv]] w (OfOk l 0 L S w) := by
  obtain ⟨a, cap, rfl⟩ : ∃ a c, v = .slice a l.length c := by obtain ⟨a, len, c, e, h, _⟩ := hr; exact ⟨a, c, by rw [e, h]⟩
  obtain ⟨pa, pc, rfl, hpc, -, -⟩ := id hL
  have hb0 := ((Below.refl w.heap.size w).alloc (Nat.le_refl _) (.cells #[.slice pa L.length pc, .int .i64 0, fv] 29)).alloc (by simp) (.cells kindsV 48)
  have hx := heap_alloc_new (w.alloc (.cells #[.slice pa L.length pc, .int .i64 0, fv] 29)) (.cells kindsV 48)
  have hsz : (w.alloc (.cells #[.slice pa L.length pc, .int .i64 0, fv] 29)).heap.size = w.heap.size + 1 := by simp
  rw [hsz] at hx
  have hy : ((w.alloc (.cells #[.slice pa L.length pc, .int .i64 0, fv] 29)).alloc (.cells kindsV 48)).heap[w.heap.size]? = _ := (Below.heap_alloc _ _ _ (by simp)).trans (heap_alloc_new w _)
  have HFI := Lib.hid (find_any (.slice a l.length cap) (.slice pa L.length pc) l L _ (hr.below hb0) hl (hL.below hb0) hLl)
  have H0 := Lib.hid (And.intro hr (And.intro hS (And.intro hb0 (And.intro hx (And.intro hy (And.intro hl hSl))))))
  have hsz2 : ((w.alloc (.cells #[.slice pa L.length pc, .int .i64 0, fv] 29)).alloc (.cells kindsV 48)).heap.size = w.heap.size + 2 := by simp
  have HSZ := Lib.hid hsz2
  clear hr hS hb0 hx hy hl hSl hL hpc hsz hsz2
  go_enter Tryz.func7, Tryz.ntmps7
  go_upto_region 5 with (go_at_call 11; refine HFI.out.mono ?_; rintro e w1 ⟨u, q, ok, rfl, hu, hok1, hok2, hb1⟩; obtain ⟨k, K0, S0, h0, f0, t0, n0, ka, kn, kc, rfl, hpv, hfacts⟩ := hu.open)
  have hs1 := hb1.size
  rw [HSZ.out] at hs1
  have hbw : Below w.heap.size w (w1.alloc (.cells #[.string K0, .string S0, .int .i64 (h0 : Nat), .int .i64 (f0 : Nat), .int .i64 (t0 : Nat), .int .i64 (n0 : Nat), .slice ka kn kc] 37)) := (H0.out.2.2.1.trans (hb1.mono (by simp; omega))).alloc (by omega) _
  have hz := heap_alloc_new w1 (.cells #[.string K0, .string S0, .int .i64 (h0 : Nat), .int .i64 (f0 : Nat), .int .i64 (t0 : Nat), .int .i64 (n0 : Nat), .slice ka kn kc] 37)
  have hx4 : (w1.alloc (.cells #[.string K0, .string S0, .int .i64 (h0 : Nat), .int .i64 (f0 : Nat), .int .i64 (t0 : Nat), .int .i64 (n0 : Nat), .slice ka kn kc] 37)).heap[w.heap.size + 1]? = _ := ((Below.heap_alloc _ _ _ (by omega)).trans (hb1.block _ (by rw [HSZ.out]; omega))).trans H0.out.2.2.2.1
  have hy4 : (w1.alloc (.cells #[.string K0, .string S0, .int .i64 (h0 : Nat), .int .i64 (f0 : Nat), .int .i64 (t0 : Nat), .int .i64 (n0 : Nat), .slice ka kn kc] 37)).heap[w.heap.size]? = _ := ((Below.heap_alloc _ _ _ (by omega)).trans (hb1.block _ (by rw [HSZ.out]; omega))).trans H0.out.2.2.2.2.1
  obtain ⟨z, hzz⟩ : ∃ z, w1.heap.size = z := ⟨_, rfl⟩
  rw [hzz] at hz ⊢
  generalize w1.alloc (.cells #[.string K0, .string S0, .int .i64 (h0 : Nat), .int .i64 (f0 : Nat), .int .i64 (t0 : Nat), .int .i64 (n0 : Nat), .slice ka kn kc] 37) = W4 at *
  cases ok with
  | false =>
    have HF := Lib.hid (And.intro (hok2 rfl) hbw)
    clear hok1 hok2 hbw hb1 hu hpv hfacts hs1 hz hx4 hy4 hzz HFI
    go_wp2_with fail
    exact bodyPost_ret (results_tmp2 rfl _ _ _) rfl ⟨_, _, rfl, by simp, fun _ => ⟨HF.out.1, rfl⟩, HF.out.2⟩
  | true =>
    have hq := hok1 rfl
    have hqf := (OkPart.find L (root_ok l) hq).facts
    obtain ⟨-, -, e2, e3, e4, -⟩ := hfacts
    have g1 : h0 ≤ f0 := by omega
    have g2 : f0 ≤ t0 := by omega
    have g3 : t0 ≤ l.length := by omega
    have hr4 := H0.out.1.below hbw.drew
    have hS4 := H0.out.2.1.below hbw.drew
    have hl := H0.out.2.2.2.2.2.1
    have hSl := H0.out.2.2.2.2.2.2
    have hway : Calls Tryz.prog 13 #[.agg #[.slice a l.length cap, .slice pa L.length pc, .int .i64 0, fv, .string K0, .string S0, .int .i64 (h0 : Nat), .int .i64 (f0 : Nat), .int .i64 (t0 : Nat), .int .i64 (n0 : Nat), .slice ka kn kc]] W4.drew (WayOk W4.drew (if L.length = 0 then l else rngS l f0 t0) true) := all_any a cap l pa L.length pc 0 fv K0 S0 h0 f0 t0 n0 ka kn kc W4.drew hr4 g1 g2 g3
    obtain ⟨m0, m1, m2, m3, m4, m5, m6⟩ := cells7 hz
    have c0 := cell_of_row W4 w.heap.size 0 _ _ _ hy4
    have c1 := cell_of_row W4 w.heap.size 1 _ _ _ hy4
    have c2 := cell_of_row W4 w.heap.size 2 _ _ _ hy4
    have k0 : W4.cell? ⟨w.heap.size + 1, 0, none⟩ = some (.func (.func 13) #[] #[]) := (cell_of_row W4 (w.heap.size + 1) 0 _ _ _ hx4).trans rfl
    have HW := Lib.hid hway
    have HAS : Hid (askS l 0 L S q = (if L.length = 0 then l else rngS l f0 t0)) := Lib.hid (by
      unfold askS
      rw [if_pos rfl, e3, e4]
      by_cases h0 : L = []
      · rw [if_pos h0, if_pos (by rw [h0]; rfl)]
      · rw [if_neg h0, if_neg (by simpa using h0)])
    have HE := Lib.hid (And.intro hbw (And.intro hq (And.intro g1 (And.intro g2 (And.intro g3 hl)))))
    have HML : Hid ((if L.length = 0 then l else rngS l f0 t0).length ≤ 140737488351232) := Lib.hid (by
      split
      · omega
      · rw [rngS_len g3]; omega)
    generalize (if L.length = 0 then l else rngS l f0 t0) = ML at *
    clear hway hr4 hS4 hl hSl hbw hb1 hu hpv hs1 hz hx4 hy4 hzz HFI hok1 hok2 hq hqf e2 e3 e4 g1 g2 g3
    go_upto_region 7 with fail
    go_region_law (go_simp; go_at_call 13; refine HW.out.mono ?_; rintro e w5 ⟨o, rfl, ho, hb5⟩; have HO := Lib.hid (And.intro ho hb5); clear ho hb5)
    all_goals go_wp2_with (go_at_call 18; refine (bclone_any _ _ w5 HO.out.1 HML.out).mono ?_; rintro e w6 ⟨o6, rfl, ho6, hb6⟩)
    all_goals
      have h5 := HE.out.1.size
      have h6 := HO.out.2.size
      simp at h6
      exact bodyPost_ret (results_tmp2 rfl _ _ _) rfl ⟨_, _, rfl, fun _ => ⟨q, HE.out.2.1, by rw [HAS.out]; exact own_low ho6 (by omega)⟩, by simp, (HE.out.1.drew.trans (HO.out.2.mono (by simp; omega))).trans (hb6.mono (by omega))⟩
end
section
set_option linter.unusedVariables false
open Go.RowKit Go.Lib Go.Shelf Go.Joins
attribute [local go_sem] Oper.semAt_some
set_option maxRecDepth 100000 in
set_option maxHeartbeats 4000000 in
theorem of1_any (v pv fv : Value) (l : List Nat) (S : List ByteArray) (w : World) (hr : RowB w v l) (hl : l.length ≤ 100000) (hL : IntsIn w pv []) (hS : StrsIn w fv S) (hSl : S.length ≤ 1000000) :
    Calls Tryz.prog 7 #[v, .agg #[pv, .int .i64 1, fv]] w (OfOk l 1 [] S w) := by
  obtain ⟨a, cap, rfl⟩ : ∃ a c, v = .slice a l.length c := by obtain ⟨a, len, c, e, h, _⟩ := hr; exact ⟨a, c, by rw [e, h]⟩
  obtain ⟨pa, pc, rfl, hpc, -, -⟩ := id hL
  simp only [List.length_nil] at hL
  have hb0 := ((Below.refl w.heap.size w).alloc (Nat.le_refl _) (.cells #[.slice pa 0 pc, .int .i64 1, fv] 29)).alloc (by simp) (.cells kindsV 48)
  have hx := heap_alloc_new (w.alloc (.cells #[.slice pa 0 pc, .int .i64 1, fv] 29)) (.cells kindsV 48)
  have hsz : (w.alloc (.cells #[.slice pa 0 pc, .int .i64 1, fv] 29)).heap.size = w.heap.size + 1 := by simp
  rw [hsz] at hx
  have hy : ((w.alloc (.cells #[.slice pa 0 pc, .int .i64 1, fv] 29)).alloc (.cells kindsV 48)).heap[w.heap.size]? = _ := (Below.heap_alloc _ _ _ (by simp)).trans (heap_alloc_new w _)
  have HFI := Lib.hid (find_any (.slice a l.length cap) (.slice pa 0 pc) l [] _ (hr.below hb0) hl (hL.below hb0) (by simp))
  have H0 := Lib.hid (And.intro hr (And.intro hS (And.intro hb0 (And.intro hx (And.intro hy (And.intro hl hSl))))))
  have hsz2 : ((w.alloc (.cells #[.slice pa 0 pc, .int .i64 1, fv] 29)).alloc (.cells kindsV 48)).heap.size = w.heap.size + 2 := by simp
  have HSZ := Lib.hid hsz2
  clear hr hS hb0 hx hy hl hSl hL hpc hsz hsz2
  go_enter Tryz.func7, Tryz.ntmps7
  go_upto_region 5 with (go_at_call 11; refine HFI.out.mono ?_; rintro e w1 ⟨u, q, ok, rfl, hu, hok1, hok2, hb1⟩; obtain ⟨k, K0, S0, h0, f0, t0, n0, ka, kn, kc, rfl, hpv, hfacts⟩ := hu.open)
  have hs1 := hb1.size
  rw [HSZ.out] at hs1
  have hbw : Below w.heap.size w (w1.alloc (.cells #[.string K0, .string S0, .int .i64 (h0 : Nat), .int .i64 (f0 : Nat), .int .i64 (t0 : Nat), .int .i64 (n0 : Nat), .slice ka kn kc] 37)) := (H0.out.2.2.1.trans (hb1.mono (by simp; omega))).alloc (by omega) _
  have hz := heap_alloc_new w1 (.cells #[.string K0, .string S0, .int .i64 (h0 : Nat), .int .i64 (f0 : Nat), .int .i64 (t0 : Nat), .int .i64 (n0 : Nat), .slice ka kn kc] 37)
  have hx4 : (w1.alloc (.cells #[.string K0, .string S0, .int .i64 (h0 : Nat), .int .i64 (f0 : Nat), .int .i64 (t0 : Nat), .int .i64 (n0 : Nat), .slice ka kn kc] 37)).heap[w.heap.size + 1]? = _ := ((Below.heap_alloc _ _ _ (by omega)).trans (hb1.block _ (by rw [HSZ.out]; omega))).trans H0.out.2.2.2.1
  have hy4 : (w1.alloc (.cells #[.string K0, .string S0, .int .i64 (h0 : Nat), .int .i64 (f0 : Nat), .int .i64 (t0 : Nat), .int .i64 (n0 : Nat), .slice ka kn kc] 37)).heap[w.heap.size]? = _ := ((Below.heap_alloc _ _ _ (by omega)).trans (hb1.block _ (by rw [HSZ.out]; omega))).trans H0.out.2.2.2.2.1
  obtain ⟨z, hzz⟩ : ∃ z, w1.heap.size = z := ⟨_, rfl⟩
  rw [hzz] at hz ⊢
  generalize w1.alloc (.cells #[.string K0, .string S0, .int .i64 (h0 : Nat), .int .i64 (f0 : Nat), .int .i64 (t0 : Nat), .int .i64 (n0 : Nat), .slice ka kn kc] 37) = W4 at *
  cases ok with
  | false =>
    have HF := Lib.hid (And.intro (hok2 rfl) hbw)
    clear hok1 hok2 hbw hb1 hu hpv hfacts hs1 hz hx4 hy4 hzz HFI
    go_wp2_with fail
    exact bodyPost_ret (results_tmp2 rfl _ _ _) rfl ⟨_, _, rfl, by simp, fun _ => ⟨HF.out.1, rfl⟩, HF.out.2⟩
  | true =>
    have hq := hok1 rfl
    have hqf := (OkPart.find [] (root_ok l) hq).facts
    obtain ⟨-, -, e2, e3, e4, -⟩ := hfacts
    have g1 : h0 ≤ f0 := by omega
    have g2 : f0 ≤ t0 := by omega
    have g3 : t0 ≤ l.length := by omega
    have hr4 := H0.out.1.below hbw.drew
    have hS4 := H0.out.2.1.below hbw.drew
    have hl := H0.out.2.2.2.2.2.1
    have hSl := H0.out.2.2.2.2.2.2
    have hway : Calls Tryz.prog 14 #[.agg #[.slice a l.length cap, .slice pa 0 pc, .int .i64 1, fv, .string K0, .string S0, .int .i64 (h0 : Nat), .int .i64 (f0 : Nat), .int .i64 (t0 : Nat), .int .i64 (n0 : Nat), .slice ka kn kc]] W4.drew (WayOk W4.drew (rngS l h0 f0) true) := header_any a cap l pa pc 1 fv K0 S0 h0 f0 t0 n0 ka kn kc W4.drew hr4 g1 g2 g3
    obtain ⟨m0, m1, m2, m3, m4, m5, m6⟩ := cells7 hz
    have c0 := cell_of_row W4 w.heap.size 0 _ _ _ hy4
    have c1 := cell_of_row W4 w.heap.size 1 _ _ _ hy4
    have c2 := cell_of_row W4 w.heap.size 2 _ _ _ hy4
    have k0 : W4.cell? ⟨w.heap.size + 1, 1, none⟩ = some (.func (.func 14) #[] #[]) := (cell_of_row W4 (w.heap.size + 1) 1 _ _ _ hx4).trans rfl
    have HW := Lib.hid hway
    have HAS : Hid (askS l 1 [] S q = (rngS l h0 f0)) := Lib.hid (by
      unfold askS
      simp [e2, e3])
    have HE := Lib.hid (And.intro hbw (And.intro hq (And.intro g1 (And.intro g2 (And.intro g3 hl)))))
    have HML : Hid ((rngS l h0 f0).length ≤ 140737488351232) := Lib.hid (by
      rw [rngS_len (by omega)]; omega)
    obtain ⟨ML, hML⟩ : ∃ ML, (rngS l h0 f0) = ML := ⟨_, rfl⟩
    rw [hML] at HW HAS HML
    clear hML
    clear hway hr4 hS4 hl hSl hbw hb1 hu hpv hs1 hz hx4 hy4 hzz HFI hok1 hok2 hq hqf e2 e3 e4 g1 g2 g3
    go_upto_region 7 with fail
    go_region_law (go_simp; go_at_call 14; refine HW.out.mono ?_; rintro e w5 ⟨o, rfl, ho, hb5⟩; have HO := Lib.hid (And.intro ho hb5); clear ho hb5)
    all_goals go_wp2_with (go_at_call 18; refine (bclone_any _ _ w5 HO.out.1 HML.out).mono ?_; rintro e w6 ⟨o6, rfl, ho6, hb6⟩)
    all_goals
      have h5 := HE.out.1.size
      have h6 := HO.out.2.size
      simp at h6
      exact bodyPost_ret (results_tmp2 rfl _ _ _) rfl ⟨_, _, rfl, fun _ => ⟨q, HE.out.2.1, by rw [HAS.out]; exact own_low ho6 (by omega)⟩, by simp, (HE.out.1.drew.trans (HO.out.2.mono (by simp; omega))).trans (hb6.mono (by omega))⟩
end
end Go.Proofs.YtnncldnpkfjhbaaGreatDoor
