/-
  Several texts of one proof, each in a section of its own: WhW, SecO4, SecO5.
-/
import Derived.Test.YtnncldnpkfjhbaaGreatDoorMg26
import Derived.Test.YtnncldnpkfjhbaaGreatDoorMg25
namespace Go.Proofs.YtnncldnpkfjhbaaGreatDoor
section
set_option linter.unusedVariables false
open Go.RowKit Go.Lib Go.Shelf Go.Joins
attribute [local go_sem] Oper.semAt_some

theorem OfOk.root {l : List Nat} {kd : Nat} {S : List ByteArray} {w W' : World} {e : Ending} (h : OfOk l kd [] S w e W') : ∃ u, e = .returned (.tuple #[u, .bool true]) ∧ OwnB W' w.heap.size u (askS l kd [] S (rootP l)) ∧ Below w.heap.size w W' := by
  obtain ⟨u, ok, rfl, h1, h2, hb⟩ := h
  cases ok with
  | false =>
    have := (h2 rfl).1
    simp [findP] at this
  | true =>
    obtain ⟨q, hq, ho⟩ := h1 rfl
    obtain rfl : rootP l = q := Option.some.inj hq
    exact ⟨u, rfl, ho, hb⟩
theorem ask_head (l : List Nat) : askS l 1 [] [] (rootP l) = rngS l 0 (splitS l) := by
  have h := root_facts l
  unfold askS
  simp [h.1, h.2.1]
theorem ask_text (l : List Nat) : askS l 2 [] [] (rootP l) = rngS l (splitS l) l.length := by
  have h := root_facts l
  unfold askS
  simp [h.2.1, h.2.2]
theorem ask_all (l : List Nat) : askS l 0 [] [] (rootP l) = l := by unfold askS; simp
theorem mod99 (x : Int) : ∃ k : Nat, k < 99 ∧ wrap64 ((IntKind.u64.wrap x).tmod 99) = (k : Int) := by
  have h0' : 0 ≤ IntKind.u64.wrap x := by rw [IntKind.wrap_u64]; exact Int.emod_nonneg _ (by decide)
  generalize IntKind.u64.wrap x = y at *
  rw [Int.tmod_eq_emod_of_nonneg h0']
  have h1 : 0 ≤ y % 99 := Int.emod_nonneg _ (by omega)
  have h2 : y % 99 < 99 := Int.emod_lt_of_pos _ (by omega)
  generalize y % 99 = z at *
  refine ⟨z.toNat, by omega, ?_⟩
  unfold wrap64
  omega

/-- 'append(out, xs...)' behind a guard that holds -/
theorem applwg {ops : Array Oper} {rest : List Oper} {o : Oper} {a : Act} {Q : Exit → Act → World → Prop} (s x : Operand)
    (ho : o.op = .call { callee := .builtin .append, args := #[s, x], argTypes := #[22, 22] })
    {w : World} {B : Nat} {v u : Value} {l m : List Nat} (hown : OwnB w B v l) (hr : RowB w u m) (hB : B ≤ w.heap.size)
    (hs : a.eval s = v) (hx : a.eval x = u) (hlen : l.length + m.length ≤ 140737488355328) (hgd : Region.wanted o (yielded ops a.tmps) = true)
    (h : ∀ o' w2, OwnB w2 B o' (l ++ m) → w.grownBy w2 v.ownBlock → wpList Tryz.prog ops Q rest (a.put o.dst o') w2) :
    wpList Tryz.prog ops Q (o :: rest) a w := by
  obtain ⟨v', w', hrun, h1, h2, h3⟩ := run_app o.type hown hr hB hlen
  refine wpList_step fun K hK => ?_
  rw [hgd, if_pos rfl]
  unfold Oper.wp
  simp [execOp, ho, resolve, invoke, builtin, hs, hx, hrun, Result.andThen]
  exact hK _ _ (h _ _ h1 h2)

set_option maxRecDepth 100000 in
set_option maxHeartbeats 4000000 in
theorem whole_walk (v : Value) (z : Int) (b : List Nat) (w : World) (h0 : RowB w v b) (hb0 : b.length ≤ 140737488351232) :
    Calls Tryz.prog 3 #[v, .int .i64 z] w fun e w' => e = .returned (.bool true) ∧ Below w.heap.size w w' := by
  have HAW := Lib.hid (fun w => awake_any w)
  obtain ⟨a, cap, rfl⟩ : ∃ a c, v = .slice a b.length c := by obtain ⟨a, len, c, e, h, _⟩ := h0; exact ⟨a, c, by rw [e, h]⟩
  have H0 := Lib.hid h0
  clear h0
  by_cases g0 : 6000 < (b.length : Int)
  · go_enter Tryz.func3, Tryz.ntmps3
    go_wp2_with (go_at_call 6; refine (HAW.out _).mono ?_; rintro e w1 ⟨rfl, hb⟩)
    go_ret
    exact ⟨rfl, hb⟩
  · have hbl : b.length ≤ 6000 := by omega
    have HBL := Lib.hid hbl
    have HLT := Lib.hid H0.out.lt
    have HSP := Lib.hid (splitS_le b)
    clear hb0
    have HA := Lib.hid (fun W hr => of1_any (.slice a b.length cap) (.slice none 0 0) (.slice none 0 0) b [] W hr (by omega) (ints_nil _) (strs_nil _) (by simp))
    have HB := Lib.hid (fun W hr => of2_any (.slice a b.length cap) (.slice none 0 0) (.slice none 0 0) b [] W hr (by omega) (ints_nil _) (strs_nil _) (by simp))
    have HC := Lib.hid (fun W hr => of0_any (.slice a b.length cap) (.slice none 0 0) (.slice none 0 0) b [] [] W hr (by omega) (ints_nil _) (by simp) (strs_nil _) (by simp))
    clear hbl
    go_enter Tryz.func3, Tryz.ntmps3
    go_upto_region 4 with (go_at_call 7; refine (HA.out _ H0.out).mono ?_; intro e w1 h1; obtain ⟨u1, rfl, ho1, hb1⟩ := h1.root; rw [ask_head] at ho1; have HO1 := Lib.hid ho1; have HB1 := Lib.hid hb1; clear ho1 hb1 h1)
    go_upto_region 5 with (go_at_call 7; refine (HB.out _ (H0.out.below HB1.out)).mono ?_; intro e w2 h2; obtain ⟨u2, rfl, ho2, hb2⟩ := h2.root; rw [ask_text] at ho2; have HO2 := Lib.hid ho2; have HB2 := Lib.hid (HB1.out.trans (hb2.mono HB1.out.size)); have HR2 := Lib.hid (((HO1.out.rowB (rngS_lt HLT.out _ _))).below hb2); clear ho2 hb2 h2)
    go_upto_region 6 with (go_at_call 7; refine (HC.out _ (H0.out.below HB2.out)).mono ?_; intro e w3 h3; obtain ⟨u3, rfl, ho3, hb3⟩ := h3.root; rw [ask_all] at ho3; have HO3 := Lib.hid (ho3.rowB HLT.out); have HB3 := Lib.hid (HB2.out.trans (hb3.mono HB2.out.size)); have HR3 := Lib.hid (HR2.out.below hb3); have HT3 := Lib.hid ((HO2.out.rowB (rngS_lt HLT.out _ _)).below hb3); clear ho3 hb3 h3)
    clear HA HB HC HR2 HO2 HO1
    go_upto_region 8 with (first
      | (go_at_call 6; refine (HAW.out _).mono ?_; rintro e w4 ⟨rfl, hb4⟩; have HB4 := Lib.hid (HB3.out.trans (hb4.mono HB3.out.size)); have HH := Lib.hid (HR3.out.below hb4); have HT := Lib.hid (HT3.out.below hb4); have HL := Lib.hid (HO3.out.below hb4); clear hb4)
      | (go_at_call 9; refine (copy_any u1 _ w4 HH.out (by rw [rngS_len (by have := HSP.out; omega)]; have := HBL.out; have := HSP.out; omega)).mono ?_; rintro e w5 ⟨o, rfl, ho5, hb5⟩; have HO5 := Lib.hid ho5; have HB45 := Lib.hid hb5; have HT5 := Lib.hid (HT.out.below hb5); clear ho5 hb5)
      | (at_builtin; go_loud (refine applwg (.tmp 51) (.tmp 52) rfl HO5.out HT5.out (HB45.out.size) rfl rfl (by rw [rngS_len (by have := HSP.out; omega), rngS_len (by omega)]; have := HBL.out; have := HSP.out; omega) (by rfl) ?_); intro o6 w6 ho6 hg6; rw [rng_join (Nat.zero_le _) HSP.out (Nat.le_refl _), rng_all] at ho6; have HO6 := Lib.hid (ho6.rowB HLT.out); have HB46 := Lib.hid (HB45.out.grown hg6 HB45.out.size (fun j e => OwnB.ownLe HO5.out j e)); have HB6 := Lib.hid (HB4.out.trans (HB46.out.mono HB4.out.size)); have HL6 := Lib.hid (HL.out.below HB46.out); clear ho6 hg6)
      | (go_at_call 8; with_reducible refine (bytes_yes o6 _ b w6 HO6.out (H0.out.below HB6.out)).mono ?_; rintro e w7 ⟨rfl, rfl⟩)
      | (go_at_call 8; with_reducible refine (bytes_yes u3 _ b w6 HL6.out (H0.out.below HB6.out)).mono ?_; rintro e w7 ⟨rfl, rfl⟩))
    have HB7 := Lib.hid HB6.out
    clear HB6 HB4 HB46 HL6 HO6 HL HT HH HR3 HT3 HO3 HB3 HO5 HB45 HT5
    obtain ⟨k, hk, e99⟩ := mod99 z
    have e1 : wrap64 (1 + (k : Int)) = ((1 + k : Nat) : Int) := by unfold wrap64; omega
    obtain ⟨n, hn⟩ : ∃ n, 1 + k = n := ⟨_, rfl⟩
    rw [hn] at e1
    have HN : Hid (1 ≤ n ∧ n ≤ 1000) := Lib.hid ⟨by omega, by omega⟩
    have hn9 : (n : Int) ≤ 1000 := by omega
    have hn0 : (0 : Int) ≤ (n : Int) := by omega
    clear hn hk
    go_wp2_with fail
    rw [e1]
    clear e99 e1
    go_loopw [11, 12] (fun ov iv wr => ∃ m : Nat, m ≤ b.length + n ∧ iv = .int .i64 (m : Nat) ∧ OwnB wr w6.heap.size ov (b.take m) ∧ Below w6.heap.size w6 wr) (fun _ iv _ => b.length - (RowKit.intOf iv).toNat)
    case atStart => exact ⟨0, Nat.zero_le _, rfl, World.ownsRow_nil _ _ _ _, Below.refl _ _⟩
    case round =>
      obtain ⟨m, hm, rfl, hov, hbr⟩ := hrel
      have HOV := Lib.hid hov
      have HBR := Lib.hid hbr
      have hb7 := HB7.out.trans (hbr.mono HB7.out.size)
      have HRB := Lib.hid (H0.out.below hb7)
      have HBW := Lib.hid hb7
      clear hov hbr hb7
      by_cases hlt : (m : Int) < (b.length : Int)
      · have hmn : (m : Int) + (n : Int) ≤ 100000 := by have := HBL.out; omega
        have HLT2 := Lib.hid hlt
        have hcut := secCut_any a cap b m n wr HRB.out (by have := HBL.out; omega) (by have := HLT2.out; omega) HN.out.1 HN.out.2
        have HCUT := Lib.hid hcut
        clear hcut hlt
        have hlt := HLT2.out
        go_wp2_with (first
          | (go_at_call 10; refine HCUT.out.mono ?_; rintro e w8 ⟨o8, rfl, ho8, hb8⟩; have HO8 := Lib.hid (ho8.rowB (fun c hc => HLT.out c (List.mem_of_mem_drop (List.mem_of_mem_take hc)))); have HB8 := Lib.hid (HBR.out.trans (hb8.mono HBR.out.size)); have HV8 := Lib.hid (HOV.out.keep hb8 (fun j e => (World.ownsRow.lt HOV.out j e).2)); clear ho8 hb8)
          | (at_builtin; go_loud (refine applw rfl (.tmp 76) (.tmp 80) rfl HV8.out HO8.out HB8.out.size rfl rfl (by simp; have := HBL.out; omega) ?_); intro o9 w9 ho9 hg9 _; rw [← List.take_add] at ho9; have HO9 := Lib.hid ho9; have HB9 := Lib.hid (HB8.out.grown hg9 HB8.out.size (fun j e => OwnB.ownLe HV8.out j e)); clear ho9 hg9))
        go_roundw
        case rel => exact ⟨m + n, by have := HLT2.out; omega, by go_num, HO9.out, HB9.out⟩
        case measure => have := HLT2.out; have := HN.out; simp [RowKit.intOf]; omega
      · have HLT2 := Lib.hid hlt
        have hcut := secCut_any a cap b b.length n wr HRB.out (by have := HBL.out; omega) (Nat.le_refl _) HN.out.1 HN.out.2
        rw [List.drop_length, List.take_nil] at hcut
        have HCUT := Lib.hid hcut
        have hov2 := HOV.out
        rw [List.take_of_length_le (by omega)] at hov2
        have HOV2 := Lib.hid (hov2.rowB HLT.out)
        clear hcut hov2
        go_wp2_with (first
          | (go_at_call 8; refine (bytes_yes u11 _ b wr HOV2.out HRB.out).mono ?_; rintro e w8 ⟨rfl, rfl⟩)
          | (go_at_call 10; refine HCUT.out.mono ?_; rintro e w8 ⟨o8, rfl, ho8, hb8⟩; obtain ⟨oa, oc, rfl⟩ := ho8.shape; simp only [List.length_nil] at *))
        go_ret
        exact ⟨rfl, HBW.out.trans (hb8.mono HBW.out.size)⟩
end
section
set_option linter.unusedVariables false
open Go.RowKit Go.Lib Go.Shelf Go.Joins
attribute [local go_sem] Oper.semAt_some
set_option maxRecDepth 100000 in
set_option maxHeartbeats 4000000 in
theorem of4_any (v pv fv : Value) (l : List Nat) (S : List ByteArray) (w : World) (hr : RowB w v l) (hl : l.length ≤ 100000) (hL : IntsIn w pv []) (hS : StrsIn w fv S) (hSl : S.length ≤ 1000000) :
    Calls Tryz.prog 7 #[v, .agg #[pv, .int .i64 4, fv]] w (OfOk l 4 [] S w) := by
  obtain ⟨a, cap, rfl⟩ : ∃ a c, v = .slice a l.length c := by obtain ⟨a, len, c, e, h, _⟩ := hr; exact ⟨a, c, by rw [e, h]⟩
  obtain ⟨pa, pc, rfl, hpc, -, -⟩ := id hL
  simp only [List.length_nil] at hL
  have hb0 := ((Below.refl w.heap.size w).alloc (Nat.le_refl _) (.cells #[.slice pa 0 pc, .int .i64 4, fv] 29)).alloc (by simp) (.cells kindsV 48)
  have hx := heap_alloc_new (w.alloc (.cells #[.slice pa 0 pc, .int .i64 4, fv] 29)) (.cells kindsV 48)
  have hsz : (w.alloc (.cells #[.slice pa 0 pc, .int .i64 4, fv] 29)).heap.size = w.heap.size + 1 := by simp
  rw [hsz] at hx
  have hy : ((w.alloc (.cells #[.slice pa 0 pc, .int .i64 4, fv] 29)).alloc (.cells kindsV 48)).heap[w.heap.size]? = _ := (Below.heap_alloc _ _ _ (by simp)).trans (heap_alloc_new w _)
  have HFI := Lib.hid (find_any (.slice a l.length cap) (.slice pa 0 pc) l [] _ (hr.below hb0) hl (hL.below hb0) (by simp))
  have H0 := Lib.hid (And.intro hr (And.intro hS (And.intro hb0 (And.intro hx (And.intro hy (And.intro hl hSl))))))
  have hsz2 : ((w.alloc (.cells #[.slice pa 0 pc, .int .i64 4, fv] 29)).alloc (.cells kindsV 48)).heap.size = w.heap.size + 2 := by simp
  have HSZ := Lib.hid hsz2
  clear hr hS hb0 hx hy hl hSl hL hpc hsz hsz2
  go_enter Tryz.func7, Tryz.ntmps7
  go_upto_region 5 with (go_at_call 11; refine HFI.out.mono ?_; rintro e w1 ⟨u, q, ok, rfl, hu, hok1, hok2, hb1⟩; obtain ⟨k, K0, S0, h0, f0, t0, n0, ka, kn, kc, rfl, hpv, hfacts⟩ := hu.open)
  have hs1 := hb1.size
  rw [HSZ.out] at hs1
  have hbw : Below w.heap.size w (w1.alloc (.cells #[.string K0, .string S0, .int .i64 (h0 : Nat), .int .i64 (f0 : Nat), .int .i64 (t0 : Nat), .int .i64 (n0 : Nat), .slice ka kn kc] 37)) := (H0.out.2.2.1.trans (hb1.mono (by simp; omega))).alloc (by omega) _
  have hz := heap_alloc_new w1 (.cells #[.string K0, .string S0, .int .i64 (h0 : Nat), .int .i64 (f0 : Nat), .int .i64 (t0 : Nat), .int .i64 (n0 : Nat), .slice ka kn kc] 37)
  have hx4 : (w1.alloc (.cells #[.string K0, .string S0, .int .i64 (h0 : Nat), .int .i64 (f0 : Nat), .int .i64 (t0 : Nat), .int .i64 (n0 : Nat), .slice ka kn kc] 37)).heap[w.heap.size + 1]? = _ := ((Below.heap_alloc _ _ _ (by omega)).trans (hb1.block _ (by rw [HSZ.out]; omega))).trans H0.out.2.2.2.1
  have hy4 : (w1.alloc (.cells #[.string K0, .string S0, .int .i64 (h0 : Nat), .int .i64 (f0 : Nat), .int .i64 (t0 : Nat), .int .i64 (n0 : Nat), .slice ka kn kc] 37)).heap[w.heap.size]? = _ := ((Below.heap_alloc _ _ _ (by omega)).trans (hb1.block _ (by rw [HSZ.out]; omega))).trans H0.out.2.2.2.2.1
  obtain ⟨z, hzz⟩ : ∃ z, w1.heap.size = z := ⟨_, rfl⟩
  rw [hzz] at hz ⊢
  generalize w1.alloc (.cells #[.string K0, .string S0, .int .i64 (h0 : Nat), .int .i64 (f0 : Nat), .int .i64 (t0 : Nat), .int .i64 (n0 : Nat), .slice ka kn kc] 37) = W4 at *
  cases ok with
  | false =>
    have HF := Lib.hid (And.intro (hok2 rfl) hbw)
    clear hok1 hok2 hbw hb1 hu hpv hfacts hs1 hz hx4 hy4 hzz HFI
    go_wp2_with fail
    exact bodyPost_ret (results_tmp2 rfl _ _ _) rfl ⟨_, _, rfl, by simp, fun _ => ⟨HF.out.1, rfl⟩, HF.out.2⟩
  | true =>
    have hq := hok1 rfl
    have hqf := (OkPart.find [] (root_ok l) hq).facts
    obtain ⟨-, -, e2, e3, e4, -⟩ := hfacts
    have g1 : h0 ≤ f0 := by omega
    have g2 : f0 ≤ t0 := by omega
    have g3 : t0 ≤ l.length := by omega
    have hr4 := H0.out.1.below hbw.drew
    have hS4 := H0.out.2.1.below hbw.drew
    have hl := H0.out.2.2.2.2.2.1
    have hSl := H0.out.2.2.2.2.2.2
    have hway : Calls Tryz.prog 17 #[.agg #[.slice a l.length cap, .slice pa 0 pc, .int .i64 4, fv, .string K0, .string S0, .int .i64 (h0 : Nat), .int .i64 (f0 : Nat), .int .i64 (t0 : Nat), .int .i64 (n0 : Nat), .slice ka kn kc]] W4.drew (WayOk W4.drew (onlyS (rngS l h0 f0) S (4 == 5)) true) := fieldsOf_any a cap l pa pc 4 fv S K0 S0 h0 f0 t0 n0 ka kn kc W4.drew hr4 g1 g2 g3 hl hS4 hSl
    obtain ⟨m0, m1, m2, m3, m4, m5, m6⟩ := cells7 hz
    have c0 := cell_of_row W4 w.heap.size 0 _ _ _ hy4
    have c1 := cell_of_row W4 w.heap.size 1 _ _ _ hy4
    have c2 := cell_of_row W4 w.heap.size 2 _ _ _ hy4
    have k0 : W4.cell? ⟨w.heap.size + 1, 4, none⟩ = some (.func (.func 17) #[] #[]) := (cell_of_row W4 (w.heap.size + 1) 4 _ _ _ hx4).trans rfl
    have HW := Lib.hid hway
    have HAS : Hid (askS l 4 [] S q = (onlyS (rngS l h0 f0) S (4 == 5))) := Lib.hid (by
      unfold askS
      simp [e2, e3])
    have HE := Lib.hid (And.intro hbw (And.intro hq (And.intro g1 (And.intro g2 (And.intro g3 hl)))))
    have HML : Hid ((onlyS (rngS l h0 f0) S (4 == 5)).length ≤ 140737488351232) := Lib.hid (by
      have h1 := pick_len (rngS l h0 f0) S (4 == 5) (fieldsS (rngS l h0 f0)).length
      rw [List.take_length, rngS_len (by omega)] at h1
      unfold onlyS
      rw [List.length_append]
      simp only [List.length_cons, List.length_nil]
      omega)
    obtain ⟨ML, hML⟩ : ∃ ML, (onlyS (rngS l h0 f0) S (4 == 5)) = ML := ⟨_, rfl⟩
    rw [hML] at HW HAS HML
    clear hML
    clear hway hr4 hS4 hl hSl hbw hb1 hu hpv hs1 hz hx4 hy4 hzz HFI hok1 hok2 hq hqf e2 e3 e4 g1 g2 g3
    go_upto_region 7 with fail
    go_region_law (go_simp; go_at_call 17; refine HW.out.mono ?_; rintro e w5 ⟨o, rfl, ho, hb5⟩; have HO := Lib.hid (And.intro ho hb5); clear ho hb5)
    all_goals go_wp2_with (go_at_call 18; refine (bclone_any _ _ w5 HO.out.1 HML.out).mono ?_; rintro e w6 ⟨o6, rfl, ho6, hb6⟩)
    all_goals
      have h5 := HE.out.1.size
      have h6 := HO.out.2.size
      simp at h6
      exact bodyPost_ret (results_tmp2 rfl _ _ _) rfl ⟨_, _, rfl, fun _ => ⟨q, HE.out.2.1, by rw [HAS.out]; exact own_low ho6 (by omega)⟩, by simp, (HE.out.1.drew.trans (HO.out.2.mono (by simp; omega))).trans (hb6.mono (by omega))⟩
end
section
set_option linter.unusedVariables false
open Go.RowKit Go.Lib Go.Shelf Go.Joins
attribute [local go_sem] Oper.semAt_some
set_option maxRecDepth 100000 in
set_option maxHeartbeats 4000000 in
theorem of5_any (v pv fv : Value) (l : List Nat) (S : List ByteArray) (w : World) (hr : RowB w v l) (hl : l.length ≤ 100000) (hL : IntsIn w pv []) (hS : StrsIn w fv S) (hSl : S.length ≤ 1000000) :
    Calls Tryz.prog 7 #[v, .agg #[pv, .int .i64 5, fv]] w (OfOk l 5 [] S w) := by
  obtain ⟨a, cap, rfl⟩ : ∃ a c, v = .slice a l.length c := by obtain ⟨a, len, c, e, h, _⟩ := hr; exact ⟨a, c, by rw [e, h]⟩
  obtain ⟨pa, pc, rfl, hpc, -, -⟩ := id hL
  simp only [List.length_nil] at hL
  have hb0 := ((Below.refl w.heap.size w).alloc (Nat.le_refl _) (.cells #[.slice pa 0 pc, .int .i64 5, fv] 29)).alloc (by simp) (.cells kindsV 48)
  have hx := heap_alloc_new (w.alloc (.cells #[.slice pa 0 pc, .int .i64 5, fv] 29)) (.cells kindsV 48)
  have hsz : (w.alloc (.cells #[.slice pa 0 pc, .int .i64 5, fv] 29)).heap.size = w.heap.size + 1 := by simp
  rw [hsz] at hx
  have hy : ((w.alloc (.cells #[.slice pa 0 pc, .int .i64 5, fv] 29)).alloc (.cells kindsV 48)).heap[w.heap.size]? = _ := (Below.heap_alloc _ _ _ (by simp)).trans (heap_alloc_new w _)
  have HFI := Lib.hid (find_any (.slice a l.length cap) (.slice pa 0 pc) l [] _ (hr.below hb0) hl (hL.below hb0) (by simp))
  have H0 := Lib.hid (And.intro hr (And.intro hS (And.intro hb0 (And.intro hx (And.intro hy (And.intro hl hSl))))))
  have hsz2 : ((w.alloc (.cells #[.slice pa 0 pc, .int .i64 5, fv] 29)).alloc (.cells kindsV 48)).heap.size = w.heap.size + 2 := by simp
  have HSZ := Lib.hid hsz2
  clear hr hS hb0 hx hy hl hSl hL hpc hsz hsz2
  go_enter Tryz.func7, Tryz.ntmps7
  go_upto_region 5 with (go_at_call 11; refine HFI.out.mono ?_; rintro e w1 ⟨u, q, ok, rfl, hu, hok1, hok2, hb1⟩; obtain ⟨k, K0, S0, h0, f0, t0, n0, ka, kn, kc, rfl, hpv, hfacts⟩ := hu.open)
  have hs1 := hb1.size
  rw [HSZ.out] at hs1
  have hbw : Below w.heap.size w (w1.alloc (.cells #[.string K0, .string S0, .int .i64 (h0 : Nat), .int .i64 (f0 : Nat), .int .i64 (t0 : Nat), .int .i64 (n0 : Nat), .slice ka kn kc] 37)) := (H0.out.2.2.1.trans (hb1.mono (by simp; omega))).alloc (by omega) _
  have hz := heap_alloc_new w1 (.cells #[.string K0, .string S0, .int .i64 (h0 : Nat), .int .i64 (f0 : Nat), .int .i64 (t0 : Nat), .int .i64 (n0 : Nat), .slice ka kn kc] 37)
  have hx4 : (w1.alloc (.cells #[.string K0, .string S0, .int .i64 (h0 : Nat), .int .i64 (f0 : Nat), .int .i64 (t0 : Nat), .int .i64 (n0 : Nat), .slice ka kn kc] 37)).heap[w.heap.size + 1]? = _ := ((Below.heap_alloc _ _ _ (by omega)).trans (hb1.block _ (by rw [HSZ.out]; omega))).trans H0.out.2.2.2.1
  have hy4 : (w1.alloc (.cells #[.string K0, .string S0, .int .i64 (h0 : Nat), .int .i64 (f0 : Nat), .int .i64 (t0 : Nat), .int .i64 (n0 : Nat), .slice ka kn kc] 37)).heap[w.heap.size]? = _ := ((Below.heap_alloc _ _ _ (by omega)).trans (hb1.block _ (by rw [HSZ.out]; omega))).trans H0.out.2.2.2.2.1
  obtain ⟨z, hzz⟩ : ∃ z, w1.heap.size = z := ⟨_, rfl⟩
  rw [hzz] at hz ⊢
  generalize w1.alloc (.cells #[.string K0, .string S0, .int .i64 (h0 : Nat), .int .i64 (f0 : Nat), .int .i64 (t0 : Nat), .int .i64 (n0 : Nat), .slice ka kn kc] 37) = W4 at *
  cases ok with
  | false =>
    have HF := Lib.hid (And.intro (hok2 rfl) hbw)
    clear hok1 hok2 hbw hb1 hu hpv hfacts hs1 hz hx4 hy4 hzz HFI
    go_wp2_with fail
    exact bodyPost_ret (results_tmp2 rfl _ _ _) rfl ⟨_, _, rfl, by simp, fun _ => ⟨HF.out.1, rfl⟩, HF.out.2⟩
  | true =>
    have hq := hok1 rfl
    have hqf := (OkPart.find [] (root_ok l) hq).facts
    obtain ⟨-, -, e2, e3, e4, -⟩ := hfacts
    have g1 : h0 ≤ f0 := by omega
    have g2 : f0 ≤ t0 := by omega
    have g3 : t0 ≤ l.length := by omega
    have hr4 := H0.out.1.below hbw.drew
    have hS4 := H0.out.2.1.below hbw.drew
    have hl := H0.out.2.2.2.2.2.1
    have hSl := H0.out.2.2.2.2.2.2
    have hway : Calls Tryz.prog 17 #[.agg #[.slice a l.length cap, .slice pa 0 pc, .int .i64 5, fv, .string K0, .string S0, .int .i64 (h0 : Nat), .int .i64 (f0 : Nat), .int .i64 (t0 : Nat), .int .i64 (n0 : Nat), .slice ka kn kc]] W4.drew (WayOk W4.drew (onlyS (rngS l h0 f0) S (5 == 5)) true) := fieldsOf_any a cap l pa pc 5 fv S K0 S0 h0 f0 t0 n0 ka kn kc W4.drew hr4 g1 g2 g3 hl hS4 hSl
    obtain ⟨m0, m1, m2, m3, m4, m5, m6⟩ := cells7 hz
    have c0 := cell_of_row W4 w.heap.size 0 _ _ _ hy4
    have c1 := cell_of_row W4 w.heap.size 1 _ _ _ hy4
    have c2 := cell_of_row W4 w.heap.size 2 _ _ _ hy4
    have k0 : W4.cell? ⟨w.heap.size + 1, 5, none⟩ = some (.func (.func 17) #[] #[]) := (cell_of_row W4 (w.heap.size + 1) 5 _ _ _ hx4).trans rfl
    have HW := Lib.hid hway
    have HAS : Hid (askS l 5 [] S q = (onlyS (rngS l h0 f0) S (5 == 5))) := Lib.hid (by
      unfold askS
      simp [e2, e3])
    have HE := Lib.hid (And.intro hbw (And.intro hq (And.intro g1 (And.intro g2 (And.intro g3 hl)))))
    have HML : Hid ((onlyS (rngS l h0 f0) S (5 == 5)).length ≤ 140737488351232) := Lib.hid (by
      have h1 := pick_len (rngS l h0 f0) S (5 == 5) (fieldsS (rngS l h0 f0)).length
      rw [List.take_length, rngS_len (by omega)] at h1
      unfold onlyS
      rw [List.length_append]
      simp only [List.length_cons, List.length_nil]
      omega)
    obtain ⟨ML, hML⟩ : ∃ ML, (onlyS (rngS l h0 f0) S (5 == 5)) = ML := ⟨_, rfl⟩
    rw [hML] at HW HAS HML
    clear hML
    clear hway hr4 hS4 hl hSl hbw hb1 hu hpv hs1 hz hx4 hy4 hzz HFI hok1 hok2 hq hqf e2 e3 e4 g1 g2 g3
    go_upto_region 7 with fail
    go_region_law (go_simp; go_at_call 17; refine HW.out.mono ?_; rintro e w5 ⟨o, rfl, ho, hb5⟩; have HO := Lib.hid (And.intro ho hb5); clear ho hb5)
    all_goals go_wp2_with (go_at_call 18; refine (bclone_any _ _ w5 HO.out.1 HML.out).mono ?_; rintro e w6 ⟨o6, rfl, ho6, hb6⟩)
    all_goals
      have h5 := HE.out.1.size
      have h6 := HO.out.2.size
      simp at h6
      exact bodyPost_ret (results_tmp2 rfl _ _ _) rfl ⟨_, _, rfl, fun _ => ⟨q, HE.out.2.1, by rw [HAS.out]; exact own_low ho6 (by omega)⟩, by simp, (HE.out.1.drew.trans (HO.out.2.mono (by simp; omega))).trans (hb6.mono (by omega))⟩
end
end Go.Proofs.YtnncldnpkfjhbaaGreatDoor
