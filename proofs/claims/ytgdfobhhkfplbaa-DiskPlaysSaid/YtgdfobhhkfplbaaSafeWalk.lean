/-
  The walk of DiskSafe.
-/
import Derived.Test.YtgdfobhhkfplbaaAwake
import Derived.Deep.RegionLawGrows
namespace Go.Proofs.Ytgdfobhhkfplbaa
set_option linter.unusedVariables false
open Go.RowKit

theorem write0_held {B : Nat} {w0 w : World} {p : Nat} {kv : Value} {S : List (List Nat)} {W : List (Nat × List Nat)} (h : Held B w0 w p kv S W 0 false) (a : Nat) (ha : a < S.length) (v : Value) (b : List Nat) (hb : RowB w v b) (hbl : b.length = 64) (hv : Alien w v) (hwl : W.length < 1000000) :
    Calls Try.prog 24 #[.pointer (some ⟨p, 0, none⟩), .int .i64 (a : Int), v] w fun e w' => e = .returned (.int .i64 0) ∧ Held B w0 w' p kv S (W ++ [(a, b)]) 0 false :=
  write_held h a ha v b hb hbl hv hwl (by decide)
theorem flush0_held {B : Nat} {w0 w : World} {p : Nat} {kv : Value} {S : List (List Nat)} {W : List (Nat × List Nat)} (h : Held B w0 w p kv S W 0 false) :
    Calls Try.prog 14 #[.pointer (some ⟨p, 0, none⟩)] w fun e w' => e = .returned (.int .i64 0) ∧ Held B w0 w' p kv (flushed S W) [] 0 false := flush_held h (by decide) rfl
theorem start1_held {B : Nat} {w0 w : World} {p : Nat} {kv : Value} {S : List (List Nat)} {W : List (Nat × List Nat)} {arm : Nat} (h : Held B w0 w p kv S W arm true) :
    Calls Try.prog 22 #[.pointer (some ⟨p, 0, none⟩)] w fun e w' => e = .returned (.int .i64 0) ∧ Held B w0 w' p kv S [] 0 false := start_held h
theorem Held.drew {B : Nat} {w0 w : World} {p : Nat} {kv : Value} {S : List (List Nat)} {W : List (Nat × List Nat)} {arm : Nat} {down : Bool} (h : Held B w0 w p kv S W arm down) : Held B w0 w.drew p kv S W arm down := h.below' ((Below.refl _ _).drew)
theorem putN_getD {S : List (List Nat)} {x n : Nat} {d : List Nat} (hx : x < S.length) : (putN S x n d).getD x [] = d.take n ++ (S.getD x []).drop n := by
  simp [putN, List.getD_eq_getElem?_getD, hx]
theorem step_append_sec {ops : Array Oper} {o : Oper} {a : Act} {w : World} {K : Act → World → Prop} {Q : Exit → Act → World → Prop} {E : Prop} (hw : Region.wanted o (yielded ops a.tmps) = true) (s x : Operand) (hop : o.op = Op.call { callee := Callee.builtin Builtin.append, args := #[s, x], argTypes := #[30, 30] })
    (b : Addr) (n cap : Nat) (hs : a.eval s = .slice (some b) n cap) (olds : List Nat) (hlo : olds.length = n) (holds : ∀ j u, (u8s olds)[j]? = some u → w.cell? (b.add j) = some u)
    (ad : Addr) (m c : Nat) (hx : a.eval x = .slice (some ad) m c) (news : List Nat) (hl : news.length = m) (hnews : ∀ j u, (u8s news)[j]? = some u → w.cell? (ad.add j) = some u) (hfull : cap < n + m) (hle : n + m ≤ 1000)
    (hK : ∀ v' w', OwnB w' w.heap.size v' (olds ++ news) → w.grownBy w' none → K (a.put o.dst v') w') : if Region.wanted o (yielded ops a.tmps) = true then Oper.wp Try.prog o a w K Q else E := by
  rw [if_pos hw]
  obtain ⟨i0, hi, hz0, hz1, hz2⟩ := info_parts Try.info5
  obtain ⟨v', w', hr, h2, h3⟩ := run_append_arg_grows (P := Try.prog) w 30 o.type 5 i0 _ 1 1 Try.underlying30 hi hz0 hz1 hz2 rfl (by decide) b n cap (u8s olds) (by simp [hlo]) holds ad m c (u8s news) (by simp [hl]) hnews hfull (by simp [maxLen]; omega) (by omega)
  unfold Oper.wp
  simp [execOp, hop, resolve, invoke, builtin, hs, hx, hr, Result.andThen]
  exact hK v' w' (by unfold OwnB; rw [List.length_append, hlo, hl, u8s_append]; exact h2) h3
theorem step_append_none {ops : Array Oper} {o : Oper} {a : Act} {w : World} {K : Act → World → Prop} {Q : Exit → Act → World → Prop} {E : Prop} (hw : Region.wanted o (yielded ops a.tmps) = true) (s x : Operand) (hop : o.op = Op.call { callee := Callee.builtin Builtin.append, args := #[s, x], argTypes := #[30, 30] })
    (b off n cap : Nat) (hs : a.eval s = .slice (some ⟨b, off, none⟩) n cap) (hn : n ≤ cap) (ad : Addr) (c : Nat) (hx : a.eval x = .slice (some ad) 0 c)
    (hK : K (a.put o.dst (.slice (some ⟨b, off, none⟩) n cap)) w) : if Region.wanted o (yielded ops a.tmps) = true then Oper.wp Try.prog o a w K Q else E := by
  rw [if_pos hw]
  obtain ⟨i0, hi, hz0, hz1, hz2⟩ := info_parts Try.info5
  have hr := run_append_room_cells (P := Try.prog) w 30 o.type 5 i0 Try.underlying30 hi b off n cap ad 0 c [] (by simp) (by simp) (by simp) (by omega) (by simp) (by simp)
  simp only [Nat.add_zero] at hr
  unfold Oper.wp
  simp [execOp, hop, resolve, invoke, builtin, hs, hx, hr, Result.andThen]
  exact hK

theorem shown_nil (S : List (List Nat)) (a : Nat) : shown S [] a = S.getD a [] := by simp [shown, lastIdx_nil]

/-- what is shown behind the fall -/
theorem safe_shown (x : Nat) (hx : x < 4) (A B : List Nat) (hA : A.length = 64) (hB : B.length = 64) (k : Int) :
    shown (crashed (flushed (List.replicate 4 (zeros 64)) ([] ++ [(x, A)])) ([] ++ [(x, B)]) [k]) [] x = B.take (cl k) ++ A.drop (cl k) := by
  have e1 : flushed (List.replicate 4 (zeros 64)) ([] ++ [(x, A)]) = putN (List.replicate 4 (zeros 64)) x 64 A := rfl
  have e2 : ∀ S, crashed S ([] ++ [(x, B)]) [k] = putN S x (cl k) B := fun _ => rfl
  have hz : ((List.replicate 4 (zeros 64)).getD x []).drop 64 = [] := by
    rw [List.getD_eq_getElem?_getD, List.getElem?_replicate, if_pos hx]
    rfl
  rw [e1, e2, shown_nil, putN_getD (by rw [putN_len]; simpa using hx), putN_getD (by simpa using hx), hz, List.append_nil, show A.take 64 = A from List.take_of_length_le (by omega)]

/-- a number by 4 -/
theorem mod4 (x : Int) (wf : (Lit.int .i64 x).wf = true) : ∃ a : Nat, a < 4 ∧ wrap64 ((IntKind.u64.wrap x).tmod 4) = (a : Int) := by
  have h0 : 0 ≤ IntKind.u64.wrap x := by rw [IntKind.wrap_u64]; exact Int.emod_nonneg _ (by decide)
  generalize IntKind.u64.wrap x = y at *
  rw [Int.tmod_eq_emod_of_nonneg h0]
  refine ⟨(y % 4).toNat, by omega, ?_⟩
  unfold wrap64
  omega

namespace diskSafe
set_option maxRecDepth 100000 in
set_option maxHeartbeats 1000000 in
theorem walk (w : World) (va : Value) (la : List Nat) (ra : RowB w va la) (sa : la.length ≤ 140737488351232) (vb : Value) (lb : List Nat) (rb : RowB w vb lb) (sb : lb.length ≤ 140737488351232) (x : Int) (wf : (Lit.int .i64 x).wf = true) (k : Int) (wk : (Lit.int .i64 k).wf = true) :
    Calls Try.prog 4 #[va, vb, .int .i64 x, .int .i64 k] w fun e w' => e = .returned (.bool true) ∧ Below w.heap.size w w' := by
  go_enter Try.func4, Try.ntmps4
  go_wp2_with fail
  refine (new_held 4 w (by decide) (by decide)).mono ?_
  rintro e w1 ⟨p, kv, rfl, h1⟩
  have H1 := Lib.hid h1
  clear h1
  go_wp2_with fail
  refine (awake_any w1).mono ?_
  rintro e w2 ⟨rfl, hb⟩
  have H2 := Lib.hid (H1.out.below' hb)
  clear H1 hb
  go_wp2_with fail
  obtain ⟨a4, ha4, e4⟩ := mod4 x wf
  have hfst : Hid (a4 < (List.replicate 4 (zeros 64)).length) := Lib.hid (by simpa using ha4)
  generalize wrap64 ((IntKind.u64.wrap x).tmod 4) = z at *
  subst e4
  refine (sector_any va la w2 (ra.below H2.out.below) (by omega)).mono ?_
  rintro e w3 ⟨oa, rfl, ho, hb⟩
  have H3 := Lib.hid (H2.out.below' hb)
  have HO := Lib.hid ho
  clear ho hb H2
  go_wp2_with fail
  refine (write0_held H3.out a4 hfst.out oa (secOf la) (HO.out.rowB (secOf_lt ra.lt)) (secOf_len _) HO.out.alien (by decide)).mono ?_
  rintro e w4 ⟨rfl, h4⟩
  have H4 := Lib.hid h4
  clear h4 H3 HO
  go_wp2_with fail
  refine (flush0_held H4.out).mono ?_
  rintro e w5 ⟨rfl, h5⟩
  have H5 := Lib.hid h5
  clear h5 H4
  go_wp2_with fail
  refine (sector_any vb lb w5 (rb.below H5.out.below) (by omega)).mono ?_
  rintro e w6 ⟨ob, rfl, ho, hb⟩
  have H6 := Lib.hid (H5.out.below' hb)
  have HO := Lib.hid ho
  clear ho hb H5
  have hlen : Hid (a4 < (flushed (List.replicate 4 (zeros 64)) ([] ++ [(a4, secOf la)])).length) := Lib.hid (by rw [show flushed (List.replicate 4 (zeros 64)) ([] ++ [(a4, secOf la)]) = putN (List.replicate 4 (zeros 64)) a4 64 (secOf la) from rfl, putN_len]; exact hfst.out)
  go_wp2_with fail
  refine (write0_held H6.out a4 hlen.out ob (secOf lb) (HO.out.rowB (secOf_lt rb.lt)) (secOf_len _) HO.out.alien (by decide)).mono ?_
  rintro e w7 ⟨rfl, h7⟩
  have H7 := Lib.hid h7
  clear h7 H6 HO
  go_wp2_with fail
  refine (waiting_held H7.out).mono ?_
  rintro e w8 ⟨rfl, rfl⟩
  go_wp2_with fail
  refine (crash_held (H7.out.alloc (.cells ([k].map (.int .i64)).toArray 3)) _ [k] (lit_intB w7 [k] (by simp [maxLen])) (lit_alien w7 _ 3 1 1 (by decide) (by decide) (by decide))).mono ?_
  rintro e w8 ⟨rfl, h8⟩
  have H8 := Lib.hid h8
  clear h8 H7
  go_wp2_with fail
  refine (start1_held H8.out).mono ?_
  rintro e w9 ⟨rfl, h9⟩
  have H9 := Lib.hid h9
  clear h9 H8
  have hlen2 : Hid (a4 < (crashed (flushed (List.replicate 4 (zeros 64)) ([] ++ [(a4, secOf la)])) ([] ++ [(a4, secOf lb)]) [k]).length) := Lib.hid (by rw [show ∀ S, crashed S ([] ++ [(a4, secOf lb)]) [k] = putN S a4 (cl k) (secOf lb) from fun _ => rfl, putN_len]; exact hlen.out)
  go_wp2_with fail
  refine (read_held H9.out a4 hlen2.out).mono ?_
  rintro e w10 ⟨o, rfl, ho, hb⟩
  rw [safe_shown a4 ha4 (secOf la) (secOf lb) (secOf_len _) (secOf_len _) k] at ho
  have HB := Lib.hid (H9.out.below' hb)
  have HO := Lib.hid ho
  clear ho hb H9
  have hL : ((secOf lb).take (cl k) ++ (secOf la).drop (cl k)).length = 64 := by
    have := cl_le k
    have h1 := secOf_len la
    have h2 := secOf_len lb
    simp [h1, h2]
    omega
  obtain ⟨g, oc, rfl, hgc, hgm, -, -, -⟩ := own_64 HO.out hL (by decide)
  go_wp2_with fail
  rw [show max 0 (min k 64) = ((cl k : Nat) : Int) from by unfold cl; omega]
  have hn := cl_le k
  have h256 : ∀ m ∈ (secOf lb).take (cl k) ++ (secOf la).drop (cl k), m < 256 := fun m hm => by
    rcases List.mem_append.1 hm with hm | hm
    · exact secOf_lt rb.lt m (List.mem_of_mem_take hm)
    · exact secOf_lt ra.lt m (List.mem_of_mem_drop hm)
  have ho := HO.out.rowB h256
  generalize cl k = n at *
  refine wp_region_any (by kernel_rfl) ?_
  try (change wpAny _ _ _ _ _ _ _ (World.drew _))
  have HBd := Lib.hid HB.out.drew
  have HOd := Lib.hid (ho.below ((Below.refl _ _).drew))
  have H256 := Lib.hid h256
  clear ho HO HB hlen hlen2 hfst h256
  generalize w10.drew = wd at *
  refine wpAny_take (i := 0) (oi := ⟨_, _, _, _, _, _⟩) (v := ?_) rfl (by kernel_rfl) (by kernel_rfl) (by kernel_rfl) (fun _ _ _ h => h) (Or.inl ⟨by rfl, ?_⟩) ?_
  rotate_left
  · intro w; go_simp <;> with_reducible rfl
  simp only [Act.put, List.setIfInBounds_toArray, List.set_cons_zero, List.set_cons_succ]
  refine wpAny_take (i := 1) (oi := ⟨_, _, _, _, _, _⟩) (v := ?_) rfl (by kernel_rfl) (by kernel_rfl) (by kernel_rfl) (fun _ _ _ h => h) (Or.inl ⟨by rfl, ?_⟩) ?_
  rotate_left
  · intro w; go_simp <;> with_reducible rfl
  simp only [Act.put, List.setIfInBounds_toArray, List.set_cons_zero, List.set_cons_succ]
  refine wpAny_take (i := 2) (oi := ⟨_, _, _, _, _, _⟩) (v := ?_) rfl (by kernel_rfl) (by kernel_rfl) (by kernel_rfl) (fun _ _ _ h => h) (Or.inl ⟨by rfl, ?_⟩) ?_
  rotate_left
  · intro w; go_simp <;> with_reducible rfl
  simp only [Act.put, List.setIfInBounds_toArray, List.set_cons_zero, List.set_cons_succ]
  refine wpAny_take (i := 3) (oi := ⟨_, _, _, _, _, _⟩) (v := ?_) rfl (by kernel_rfl) (by kernel_rfl) (by kernel_rfl) (fun _ _ _ h => h) (Or.inl ⟨by rfl, ?_⟩) ?_
  rotate_left
  · intro w; go_simp <;> with_reducible rfl
  simp only [Act.put, List.setIfInBounds_toArray, List.set_cons_zero, List.set_cons_succ]
  refine wpAny_ready (rs := [4]) (by kernel_rfl) (by simp) ?_
  refine AllReady.cons (o := ⟨_, _, _, _, _, _⟩) rfl (fun K hK => ?_) ?_
  · go_simp
    go_wp2_with (go_at_call 30; refine (waiting_held HBd.out).mono ?_; rintro e w' ⟨rfl, rfl⟩)
    refine wpAny_take (i := 5) (oi := ⟨_, _, _, _, _, _⟩) (v := ?_) rfl (by kernel_rfl) (by kernel_rfl) (by kernel_rfl) (fun _ _ _ h => h) (Or.inl ⟨by rfl, ?_⟩) ?_
    rotate_left
    · intro w; go_simp <;> with_reducible rfl
    simp only [Act.put, List.setIfInBounds_toArray, List.set_cons_zero, List.set_cons_succ]
    refine wpAny_take (i := 6) (oi := ⟨_, _, _, _, _, _⟩) (v := ?_) rfl (by kernel_rfl) (by kernel_rfl) (by kernel_rfl) (fun _ _ _ h => h) (Or.inl ⟨by rfl, ?_⟩) ?_
    rotate_left
    · intro w; go_simp <;> with_reducible rfl
    simp only [Act.put, List.setIfInBounds_toArray, List.set_cons_zero, List.set_cons_succ]
    refine wpAny_take (i := 7) (oi := ⟨_, _, _, _, _, _⟩) (v := ?_) rfl (by kernel_rfl) (by kernel_rfl) (by kernel_rfl) (fun _ _ _ h => h) (Or.inl ⟨by rfl, ?_⟩) ?_
    rotate_left
    · intro w; go_simp <;> with_reducible rfl
    simp only [Act.put, List.setIfInBounds_toArray, List.set_cons_zero, List.set_cons_succ]
    refine wpAny_take (i := 8) (oi := ⟨_, _, _, _, _, _⟩) (v := ?_) rfl (by kernel_rfl) (by kernel_rfl) (by kernel_rfl) (fun _ _ _ h => h) (Or.inl ⟨by rfl, ?_⟩) ?_
    rotate_left
    · intro w; go_simp <;> with_reducible rfl
    simp only [Act.put, List.setIfInBounds_toArray, List.set_cons_zero, List.set_cons_succ]
    refine wpAny_take (i := 9) (oi := ⟨_, _, _, _, _, _⟩) (v := ?_) rfl (by kernel_rfl) (by kernel_rfl) (by kernel_rfl) (fun _ _ _ h => h) (Or.inl ⟨by rfl, ?_⟩) ?_
    rotate_left
    · intro w; go_simp <;> with_reducible rfl
    simp only [Act.put, List.setIfInBounds_toArray, List.set_cons_zero, List.set_cons_succ]
    refine wpAny_take (i := 11) (oi := ⟨_, _, _, _, _, _⟩) (v := ?_) rfl (by kernel_rfl) (by kernel_rfl) (by kernel_rfl) (fun _ _ _ h => h) (Or.inl ⟨by rfl, ?_⟩) ?_
    rotate_left
    · intro w; go_simp <;> with_reducible rfl
    simp only [Act.put, List.setIfInBounds_toArray, List.set_cons_zero, List.set_cons_succ]
    refine wpAny_take (i := 12) (oi := ⟨_, _, _, _, _, _⟩) (v := ?_) rfl (by kernel_rfl) (by kernel_rfl) (by kernel_rfl) (fun _ _ _ h => h) (Or.inl ⟨by rfl, ?_⟩) ?_
    rotate_left
    · intro w; go_simp <;> with_reducible rfl
    simp only [Act.put, List.setIfInBounds_toArray, List.set_cons_zero, List.set_cons_succ]
    refine wpAny_take (i := 14) (oi := ⟨_, _, _, _, _, _⟩) (v := ?_) rfl (by kernel_rfl) (by kernel_rfl) (by kernel_rfl) (fun _ _ _ h => h) (Or.inl ⟨by rfl, ?_⟩) ?_
    rotate_left
    · intro w; go_simp <;> with_reducible rfl
    simp only [Act.put, List.setIfInBounds_toArray, List.set_cons_zero, List.set_cons_succ]
    refine wpAny_take (i := 16) (oi := ⟨_, _, _, _, _, _⟩) (v := ?_) rfl (by kernel_rfl) (by kernel_rfl) (by kernel_rfl) (fun _ _ _ h => h) (Or.inl ⟨by rfl, ?_⟩) ?_
    rotate_left
    · intro w; go_simp <;> with_reducible rfl
    simp only [Act.put, List.setIfInBounds_toArray, List.set_cons_zero, List.set_cons_succ]
    refine wpAny_ready (rs := [10]) (by kernel_rfl) (by simp) ?_
    refine AllReady.cons (o := ⟨_, _, _, _, _, _⟩) rfl (fun K hK => ?_) ?_
    · go_simp
      go_wp2_with (go_at_call 25; refine (sector_any vb lb wd (rb.below HBd.out.below) (by omega)).mono ?_; rintro e w11 ⟨ob2, rfl, ho1, hb1⟩)
      have HB1 := Lib.hid (HBd.out.below' hb1)
      have HX1 := Lib.hid (HOd.out.below hb1)
      obtain ⟨g1, c1, rfl, hc1, hm1, -, hg1, -⟩ := own_64 ho1 (secOf_len lb) (by decide)
      have HO1 := Lib.hid ho1
      have hnc1 : n ≤ c1 := by omega
      clear ho1 hb1 HBd HOd
      refine wpAny_take (i := 13) (oi := ⟨_, _, _, _, _, _⟩) (v := ?_) rfl (by kernel_rfl) (by kernel_rfl) (by kernel_rfl) (fun _ _ _ h => h) (Or.inl ⟨by rfl, ?_⟩) ?_
      rotate_left
      · intro w; go_simp <;> with_reducible rfl
      simp only [Act.put, List.setIfInBounds_toArray, List.set_cons_zero, List.set_cons_succ]
      refine wpAny_ready (rs := [15]) (by kernel_rfl) (by simp) ?_
      refine AllReady.cons (o := ⟨_, _, _, _, _, _⟩) rfl (fun K hK => ?_) ?_
      · go_simp
        go_wp2_with (go_at_call 25; refine (sector_any va la w11 (ra.below HB1.out.below) (by omega)).mono ?_; rintro e w12 ⟨oa2, rfl, ho2, hb2⟩)
        have HB2 := Lib.hid (HB1.out.below' hb2)
        have HX2 := Lib.hid (HX1.out.below hb2)
        have hq1 : ∀ j, (hj : j < (secOf lb).length) → w12.cell? ⟨g1, j, none⟩ = some (.int .u8 ((secOf lb)[j] : Nat)) := fun j hj => (hb2.cell (p := ⟨g1, j, none⟩) hg1).trans (OwnB.cell HO1.out (secOf_len lb).symm j hj)
        obtain ⟨g2, c2, rfl, hc2, hm2, -, hg2, hq2⟩ := own_64 ho2 (secOf_len la) (by decide)
        have HQ1 := Lib.hid hq1
        have HQ2 := Lib.hid hq2
        clear hq1 hq2 ho2 hb2
        have l1 := secOf_len lb
        have l2 := secOf_len la
        have hni2 : (n : Int) ≤ 64 := by omega
        have HW := Lib.hid HB2.out.below
        clear HB2 HB1 HX1 HO1
        by_cases hn64 : n < 64
        · have hcn : ¬ c2 = n := by omega
          refine wpAny_take (i := 17) (oi := ⟨_, _, _, _, _, _⟩) (v := ?_) rfl (by kernel_rfl) (by kernel_rfl) (by kernel_rfl) (fun _ _ _ h => h) (Or.inl ⟨by rfl, ?_⟩) ?_
          rotate_left
          · intro w; go_simp <;> with_reducible rfl
          simp only [Act.put, List.setIfInBounds_toArray, List.set_cons_zero, List.set_cons_succ]
          refine wpAny_ready (rs := [18]) (by kernel_rfl) (by simp) ?_
          refine AllReady.cons (o := ⟨_, _, _, _, _, _⟩) rfl (fun K hK => ?_) ?_
          · refine step_append_sec (by rfl) (.tmp 92) (.tmp 96) rfl ⟨g1, 0, none⟩ n n rfl ((secOf lb).take n) (by simp [l1]; omega) (fun j u hj => ?_) ⟨g2, n, none⟩ (64 - n) (c2 - n) rfl ((secOf la).drop n) (by simp [l2]) (fun j u hj => ?_) (by omega) (by omega) (fun v' w13 hown hgr => hK _ _ ?_)
            · have hjn : j < n := by have := (List.getElem?_eq_some_iff.1 hj).1; simp at this; omega
              rw [Addr.add_mid, Nat.zero_add, HQ1.out j (by omega), ← hj, u8s, List.map_take, List.getElem?_take_of_lt hjn]
              exact (u8s_get _ j (by omega)).symm
            · have hjn : j < 64 - n := by have := (List.getElem?_eq_some_iff.1 hj).1; simpa [l2] using this
              rw [Addr.add_mid, HQ2.out (n + j) (by omega), ← hj, u8s, List.map_drop, List.getElem?_drop]
              exact (u8s_get _ (n + j) (by omega)).symm
            have HB3 := Lib.hid (HW.out.trans (((Below.refl w12.heap.size w12).grown hgr (Nat.le_refl _) (by simp)).mono HW.out.size))
            have HX3 := HX2.out.below ((Below.refl w12.heap.size w12).grown hgr (Nat.le_refl _) (by simp))
            have HR := Lib.hid (hown.rowB H256.out)
            clear hgr hown hK K
            simp only [Act.put, List.setIfInBounds_toArray, List.set_cons_zero, List.set_cons_succ]
            refine wpAny_ready (rs := [19]) (by kernel_rfl) (by simp) ?_
            refine AllReady.cons (o := ⟨_, _, _, _, _, _⟩) rfl (fun K hK => ?_) ?_
            · go_simp
              go_wp2_with (go_at_call 12; refine (bytes_any HX3 HR.out).mono ?_; rintro e w' ⟨rfl, rfl⟩)
              refine wpAny_take (i := 20) (oi := ⟨_, _, _, _, _, _⟩) (v := ?_) rfl (by kernel_rfl) (by kernel_rfl) (by kernel_rfl) (fun _ _ _ h => h) (Or.inl ⟨by rfl, ?_⟩) ?_
              rotate_left
              · intro w; go_simp <;> with_reducible rfl
              simp only [Act.put, List.setIfInBounds_toArray, List.set_cons_zero, List.set_cons_succ]
              refine wpAny_take (i := 21) (oi := ⟨_, _, _, _, _, _⟩) (v := ?_) rfl (by kernel_rfl) (by kernel_rfl) (by kernel_rfl) (fun _ _ _ h => h) (Or.inl ⟨by rfl, ?_⟩) ?_
              rotate_left
              · intro w; go_simp <;> with_reducible rfl
              simp only [Act.put, List.setIfInBounds_toArray, List.set_cons_zero, List.set_cons_succ]
              refine wpAny_done (by kernel_rfl) ?_ _
              go_wp2_with fail
              go_ret
              exact ⟨rfl, HB3.out⟩
            · exact AllReady.nil
          · exact AllReady.nil
        · obtain rfl : n = 64 := by omega
          have HX3 := HX2.out
          have HB3 := HW
          have HR : Hid (RowB w12 (.slice (some ⟨g1, 0, none⟩) 64 64) ((secOf lb).take 64 ++ (secOf la).drop 64)) := Lib.hid (by
            have e : (secOf lb).take 64 ++ (secOf la).drop 64 = secOf lb := by rw [List.take_of_length_le (by omega), List.drop_of_length_le (by omega), List.append_nil]
            rw [e]
            refine ⟨_, _, _, rfl, l1, Nat.le_refl _, by decide, secOf_lt rb.lt, by simp, fun x hx i hi => ?_⟩
            obtain rfl := Option.some.inj hx
            rw [Addr.add_mid, Nat.zero_add]
            exact HQ1.out i hi)
          by_cases hc64 : c2 = 64
          · refine wpAny_take (i := 17) (oi := ⟨_, _, _, _, _, _⟩) (v := ?_) rfl (by kernel_rfl) (by kernel_rfl) (by kernel_rfl) (fun _ _ _ h => h) (Or.inl ⟨by rfl, ?_⟩) ?_
            rotate_left
            · intro w; go_simp <;> with_reducible rfl
            simp only [Act.put, List.setIfInBounds_toArray, List.set_cons_zero, List.set_cons_succ]
            refine wpAny_ready (rs := [18]) (by kernel_rfl) (by simp) ?_
            refine AllReady.cons (o := ⟨_, _, _, _, _, _⟩) rfl (fun K hK => ?_) ?_
            · refine step_append_none (by rfl) (.tmp 92) (.tmp 96) rfl g1 0 64 64 rfl (Nat.le_refl _) _ _ rfl (hK _ _ ?_)
              clear hK K
              simp only [Act.put, List.setIfInBounds_toArray, List.set_cons_zero, List.set_cons_succ]
              refine wpAny_ready (rs := [19]) (by kernel_rfl) (by simp) ?_
              refine AllReady.cons (o := ⟨_, _, _, _, _, _⟩) rfl (fun K hK => ?_) ?_
              · go_simp
                go_wp2_with (go_at_call 12; refine (bytes_any HX3 HR.out).mono ?_; rintro e w' ⟨rfl, rfl⟩)
                refine wpAny_take (i := 20) (oi := ⟨_, _, _, _, _, _⟩) (v := ?_) rfl (by kernel_rfl) (by kernel_rfl) (by kernel_rfl) (fun _ _ _ h => h) (Or.inl ⟨by rfl, ?_⟩) ?_
                rotate_left
                · intro w; go_simp <;> with_reducible rfl
                simp only [Act.put, List.setIfInBounds_toArray, List.set_cons_zero, List.set_cons_succ]
                refine wpAny_take (i := 21) (oi := ⟨_, _, _, _, _, _⟩) (v := ?_) rfl (by kernel_rfl) (by kernel_rfl) (by kernel_rfl) (fun _ _ _ h => h) (Or.inl ⟨by rfl, ?_⟩) ?_
                rotate_left
                · intro w; go_simp <;> with_reducible rfl
                simp only [Act.put, List.setIfInBounds_toArray, List.set_cons_zero, List.set_cons_succ]
                refine wpAny_done (by kernel_rfl) ?_ _
                go_wp2_with fail
                go_ret
                exact ⟨rfl, HB3.out⟩
              · exact AllReady.nil
            · exact AllReady.nil
          · refine wpAny_take (i := 17) (oi := ⟨_, _, _, _, _, _⟩) (v := ?_) rfl (by kernel_rfl) (by kernel_rfl) (by kernel_rfl) (fun _ _ _ h => h) (Or.inl ⟨by rfl, ?_⟩) ?_
            rotate_left
            · intro w; go_simp <;> with_reducible rfl
            simp only [Act.put, List.setIfInBounds_toArray, List.set_cons_zero, List.set_cons_succ]
            refine wpAny_ready (rs := [18]) (by kernel_rfl) (by simp) ?_
            refine AllReady.cons (o := ⟨_, _, _, _, _, _⟩) rfl (fun K hK => ?_) ?_
            · refine step_append_none (by rfl) (.tmp 92) (.tmp 96) rfl g1 0 64 64 rfl (Nat.le_refl _) _ _ rfl (hK _ _ ?_)
              clear hK K
              simp only [Act.put, List.setIfInBounds_toArray, List.set_cons_zero, List.set_cons_succ]
              refine wpAny_ready (rs := [19]) (by kernel_rfl) (by simp) ?_
              refine AllReady.cons (o := ⟨_, _, _, _, _, _⟩) rfl (fun K hK => ?_) ?_
              · go_simp
                go_wp2_with (go_at_call 12; refine (bytes_any HX3 HR.out).mono ?_; rintro e w' ⟨rfl, rfl⟩)
                refine wpAny_take (i := 20) (oi := ⟨_, _, _, _, _, _⟩) (v := ?_) rfl (by kernel_rfl) (by kernel_rfl) (by kernel_rfl) (fun _ _ _ h => h) (Or.inl ⟨by rfl, ?_⟩) ?_
                rotate_left
                · intro w; go_simp <;> with_reducible rfl
                simp only [Act.put, List.setIfInBounds_toArray, List.set_cons_zero, List.set_cons_succ]
                refine wpAny_take (i := 21) (oi := ⟨_, _, _, _, _, _⟩) (v := ?_) rfl (by kernel_rfl) (by kernel_rfl) (by kernel_rfl) (fun _ _ _ h => h) (Or.inl ⟨by rfl, ?_⟩) ?_
                rotate_left
                · intro w; go_simp <;> with_reducible rfl
                simp only [Act.put, List.setIfInBounds_toArray, List.set_cons_zero, List.set_cons_succ]
                refine wpAny_done (by kernel_rfl) ?_ _
                go_wp2_with fail
                go_ret
                exact ⟨rfl, HB3.out⟩
              · exact AllReady.nil
            · exact AllReady.nil
      · exact AllReady.nil
    · exact AllReady.nil
  · exact AllReady.nil
end diskSafe
end Go.Proofs.Ytgdfobhhkfplbaa
