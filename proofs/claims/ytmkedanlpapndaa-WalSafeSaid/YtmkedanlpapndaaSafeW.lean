/-
  WalSafe: the walk.
-/
import Derived.Test.YtmkedanlpapndaaSafeU
namespace Go.Proofs.Ytmkedanlpapndaa
set_option linter.unusedVariables false
open Go.RowKit

/-- the log with its box, ahead of the first record -/
theorem PutI.below {w0 w w' : World} {pl pd : Nat} {kv : Value} {bl ba r m : Nat} {D : List (List Nat)} (h : PutI w0 w pl pd kv bl ba r m D) (hb : Below w.heap.size w w') : PutI w0 w' pl pd kv bl ba r m D := by
  obtain ⟨⟨S, W, hlg, hd⟩, hg, h1, av, M, h2, hr, hm⟩ := h
  refine ⟨⟨S, W, hlg.below hb, hd⟩, hg, (hb.block bl (lt_of_block h1)).trans h1, av, M, (hb.block ba (lt_of_block h2)).trans h2, ⟨?_, hr.of⟩, hm⟩
  exact ownsRow_qb hr.row (Below.qb hb) (fun k hk => (World.ownsRow.lt hr.row k hk).2) (by decide) (by decide) (by decide)
/-- all that is put is safe -/
theorem sync_put {w0 w : World} {pl pd : Nat} {kv : Value} {bl ba r m : Nat} {D : List (List Nat)} (h : PutI w0 w pl pd kv bl ba r m D) :
    Calls Try.prog 18 #[.pointer (some ⟨pl, 0, none⟩)] w fun e w' => e = .returned (.int .i64 0) ∧ PutI w0 w' pl pd kv bl ba r (numC D) D := by
  obtain ⟨⟨S, W, hlg, hd⟩, hg, h1, av, M, h2, hr, hm⟩ := h
  refine (sync_any hlg).mono ?_
  rintro e w' ⟨rfl, hl, hq⟩
  refine ⟨rfl, ⟨_, _, hl, hd.flush⟩, hg, hq.keep bl _ _ _ (lt_of_block h1) h1 (by decide) (by decide) (by decide), av, M, hq.keep ba _ _ _ (lt_of_block h2) h2 (by decide) (by decide) (by decide), ⟨?_, hr.of⟩, hm⟩
  exact ownsRow_qb hr.row hq (fun k hk => (World.ownsRow.lt hr.row k hk).2) (by decide) (by decide) (by decide)
theorem IntB.below {w w' : World} {v : Value} {K : List Int} (h : IntB w v K) (hb : Below w.heap.size w w') : IntB w' v K := by
  rcases h with h | ⟨b, off, cap, e, h1, h2, h3⟩
  · exact .inl h
  · refine .inr ⟨b, off, cap, e, h1, h2, fun i hi => ?_⟩
    rw [hb.cell (World.block_lt_of_cell? w _ (h3 i hi))]
    exact h3 i hi
theorem Still.bel {w w' : World} (h : Still w w') : Below w.heap.size w w' := h.1
/-- behind a fall: the disk, and what the law has -/
structure SurI (w0 w : World) (pd : Nat) (kv : Value) (ba : Nat) (S D : List (List Nat)) (down : Bool) : Prop where
  held : Held w0.heap.size w0 w pd kv S [] 0 down
  all : ∃ av M, w.heap[ba]? = some (.cells #[av] 29 (0, 0)) ∧ AllR w0 w av M ∧ M.map (·.2) = D
theorem all_qb {w0 w w' : World} {ba : Nat} {D : List (List Nat)} (h : ∃ av M, w.heap[ba]? = some (.cells #[av] 29 (0, 0)) ∧ AllR w0 w av M ∧ M.map (·.2) = D) (hq : QB w.heap.size w w') :
    ∃ av M, w'.heap[ba]? = some (.cells #[av] 29 (0, 0)) ∧ AllR w0 w' av M ∧ M.map (·.2) = D := by
  obtain ⟨av, M, h2, hr, hm⟩ := h
  exact ⟨av, M, hq.keep ba _ _ _ (lt_of_block h2) h2 (by decide) (by decide) (by decide), ⟨ownsRow_qb hr.row hq (fun k hk => (World.ownsRow.lt hr.row k hk).2) (by decide) (by decide) (by decide), hr.of⟩, hm⟩
theorem crash_q {B : Nat} {w0 w : World} {p : Nat} {kv : Value} {S : List (List Nat)} {W : List (Nat × List Nat)} {arm : Nat} {down : Bool} (h : Held B w0 w p kv S W arm down) (v : Value) (K : List Int) (hk : IntB w v K) (hB : ∀ k, v.ownBlock = some k → K ≠ [] → k < B) :
    Calls Try.prog 19 #[.pointer (some ⟨p, 0, none⟩), v] w fun e w' => e = .returned (.int .i64 0) ∧ Held B w0 w' p kv (crashed S W K) [] arm true ∧ QB w.heap.size w w' := by
  obtain ⟨wv, mv, hd, hl⟩ := h.dk
  refine (crash_okE hd v K hk (fun hne k hv hm => by
    have h1 := hB k hv hne
    have h2 := hl k hm
    omega)).mono fun e w' he => ?_
  have h1 := Held.ended h.below h.base hl he
  exact ⟨h1.1, h1.2, Held.qb hd he _⟩
theorem start_q {B : Nat} {w0 w : World} {p : Nat} {kv : Value} {S : List (List Nat)} {W : List (Nat × List Nat)} {arm : Nat} {down : Bool} (h : Held B w0 w p kv S W arm down) :
    Calls Try.prog 20 #[.pointer (some ⟨p, 0, none⟩)] w fun e w' => e = .returned (.int .i64 0) ∧ Held B w0 w' p kv S (if down then [] else W) 0 false ∧ QB w.heap.size w w' := by
  obtain ⟨wv, mv, hd, hl⟩ := h.dk
  refine (start_ok hd).mono fun e w' he => ?_
  have h1 := Held.ended h.below h.base hl he
  exact ⟨h1.1, h1.2, Held.qb hd he _⟩
theorem crash_put {w0 w : World} {pl pd : Nat} {kv : Value} {bl ba r m : Nat} {D : List (List Nat)} (h : PutI w0 w pl pd kv bl ba r m D) {v : Value} {K : List Int} (hk : IntB w0 v K) (hB : ∀ k, v.ownBlock = some k → K ≠ [] → k < w0.heap.size) :
    Calls Try.prog 19 #[.pointer (some ⟨pd, 0, none⟩), v] w fun e w' => e = .returned (.int .i64 0) ∧ ∃ S, Fell r m D S ∧ SurI w0 w' pd kv ba S D true := by
  obtain ⟨S, W, hlg, hd⟩ := h.st
  refine (crash_q hlg.disk v K (hk.below hlg.disk.below) hB).mono ?_
  rintro e w' ⟨rfl, h1, h2⟩
  exact ⟨rfl, _, hd.crash K, h1, all_qb h.all h2⟩
theorem crash_again {w0 w : World} {pd : Nat} {kv : Value} {ba : Nat} {S D : List (List Nat)} (h : SurI w0 w pd kv ba S D false) :
    Calls Try.prog 19 #[.pointer (some ⟨pd, 0, none⟩), .slice none 0 0] w fun e w' => e = .returned (.int .i64 0) ∧ SurI w0 w' pd kv ba S D true := by
  refine (crash_q h.held (.slice none 0 0) [] (.inl ⟨⟨_, _, rfl⟩, rfl⟩) (fun k hk => by simp [Value.ownBlock] at hk)).mono ?_
  rintro e w' ⟨rfl, h1, h2⟩
  exact ⟨rfl, h1, all_qb h.all h2⟩
theorem start_sur {w0 w : World} {pd : Nat} {kv : Value} {ba : Nat} {S D : List (List Nat)} (h : SurI w0 w pd kv ba S D true) :
    Calls Try.prog 20 #[.pointer (some ⟨pd, 0, none⟩)] w fun e w' => e = .returned (.int .i64 0) ∧ SurI w0 w' pd kv ba S D false := by
  refine (start_q h.held).mono ?_
  rintro e w' ⟨rfl, h1, h2⟩
  exact ⟨rfl, h1, all_qb h.all h2⟩
/-- a log that was opened behind a fall -/
structure OpI (w0 w : World) (pl pd : Nat) (kv : Value) (ba : Nat) (S D : List (List Nat)) (q num : Nat) : Prop where
  lg : Lg w0.heap.size w0 w pl pd kv (stN 3998 (D.take q) num) S []
  fit : Fit (stN 3998 (D.take q) num) S []
  all : ∃ av M, w.heap[ba]? = some (.cells #[av] 29 (0, 0)) ∧ AllR w0 w av M ∧ M.map (·.2) = D
  le : q ≤ D.length
  len : ∀ d ∈ D, d.length ≤ 65536
theorem OpI.below {w0 w w' : World} {pl pd : Nat} {kv : Value} {ba : Nat} {S D : List (List Nat)} {q num : Nat} (h : OpI w0 w pl pd kv ba S D q num) (hb : Below w.heap.size w w') : OpI w0 w' pl pd kv ba S D q num :=
  ⟨h.lg.below hb, h.fit, all_qb h.all (Below.qb hb), h.le, h.len⟩
theorem OpI.sur {w0 w : World} {pl pd : Nat} {kv : Value} {ba : Nat} {S D : List (List Nat)} {q num : Nat} (h : OpI w0 w pl pd kv ba S D q num) : SurI w0 w pd kv ba S D false := ⟨h.lg.disk, h.all⟩
theorem open_sur {w0 w : World} {pd : Nat} {kv : Value} {ba m q num : Nat} {S D : List (List Nat)} (h : SurI w0 w pd kv ba S D false) (hf : Fell 3998 m D S) (hq : q ≤ D.length) (hnum : num ≤ 65537) (hop : opS 3998 S [] = stN 3998 (D.take q) num)
    (hN : max (maxN (ringL S []) 3998) (bestN (shown S []) 2).behind + 1 < 18446744073709551616) (hlen : ∀ d ∈ D, d.length ≤ 65536) (hq2 : D.length ≤ 1000) :
    Calls Try.prog 15 #[.pointer (some ⟨pd, 0, none⟩)] w fun e w' => ∃ pl, e = .returned (.tuple #[.pointer (some ⟨pl, 0, none⟩), .int .i64 0]) ∧ OpI w0 w' pl pd kv ba S D q num := by
  refine (open_any (n := 4000) h.held hf.len (by decide) (by decide) hN).mono ?_
  rintro e w' ⟨pl, rfl, hl, -, hb⟩
  have hro := hf.room
  have hnt := numC_take_le D q
  refine ⟨pl, rfl, by rw [← hop]; exact hl, ⟨hf.len, (show 0 < 3998 by decide), ?_, ?_, ?_, Nat.zero_le _, Nat.zero_le _, ?_, Nat.zero_le _, ?_, (show 3998 ≤ 65534 by decide)⟩, all_qb h.all (Below.qb hb), hq, hlen⟩
  · show numC (D.take q) < 3998; omega
  · show num ≤ _; omega
  · show numC (D.take q) ≤ _; omega
  · show (entsOf 0 (D.take q)).length ≤ _
    rw [entsOf_length, List.length_take]; omega
  · show numC (D.take q) ≤ 3998; omega
theorem next_op {w0 w : World} {pl pd : Nat} {kv : Value} {ba : Nat} {S D : List (List Nat)} {q num : Nat} (h : OpI w0 w pl pd kv ba S D q num) :
    Calls Try.prog 21 #[.pointer (some ⟨pl, 0, none⟩)] w fun e w' => e = .returned (.int .u64 (q : Nat)) ∧ w.drew = w' := by
  have := h.lg.nexts h.fit
  have e : (stN 3998 (D.take q) num).first + (stN 3998 (D.take q) num).ents.length = q := by
    show 0 + (entsOf 0 (D.take q)).length = q
    rw [entsOf_length, List.length_take]
    have := h.le
    omega
  rwa [e] at this
theorem first_op {w0 w : World} {pl pd : Nat} {kv : Value} {ba : Nat} {S D : List (List Nat)} {q num : Nat} (h : OpI w0 w pl pd kv ba S D q num) :
    Calls Try.prog 22 #[.pointer (some ⟨pl, 0, none⟩)] w fun e w' => e = .returned (.int .u64 0) ∧ w = w' := h.lg.firsts
theorem recs_op {w0 w : World} {pl pd : Nat} {kv : Value} {ba : Nat} {S D : List (List Nat)} {q num : Nat} (h : OpI w0 w pl pd kv ba S D q num) :
    Calls Try.prog 24 #[.pointer (some ⟨pl, 0, none⟩)] w fun e w' => ∃ a c, e = .returned (.slice a q c) ∧ RowsB w' (.slice a q c) (D.take q) ∧ Below w.heap.size w w' := by
  have h256 : ∀ d ∈ D, ∀ n ∈ d, n < 256 := by
    intro d hd
    obtain ⟨av, M, -, hr, hm⟩ := h.all
    rw [← hm] at hd
    obtain ⟨x, hx, rfl⟩ := List.mem_map.1 hd
    exact (hr.of x hx).lt
  have hmem : ∀ x ∈ (stN 3998 (D.take q) num).ents, x.data ∈ D.take q := by
    intro x hx
    have := List.mem_map_of_mem (f := (·.data)) hx
    rwa [show (stN 3998 (D.take q) num).ents.map (·.data) = D.take q from entsOf_data _ 0] at this
  refine (h.lg.records h.fit.ents (fun x hx => ⟨h.len _ (List.mem_of_mem_take (hmem x hx)), h256 _ (List.mem_of_mem_take (hmem x hx))⟩)).mono ?_
  rintro e w' ⟨o, M, rfl, hM, hd, hb⟩
  have hR := hM.rowsB (D := D.take q) (by rw [hd]; exact entsOf_data _ 0) (fun d hd => h256 d (List.mem_of_mem_take hd))
  obtain ⟨a, c, e, _⟩ := id hR
  have hl : (D.take q).length = q := by rw [List.length_take]; have := h.le; omega
  rw [hl] at e
  subst e
  exact ⟨a, c, rfl, hR, hb⟩
set_option maxRecDepth 100000 in
set_option maxHeartbeats 8000000 in
theorem safe_walk (w : World) (va vb vk : Value) (XA XB : List (List Nat)) (K : List Int) (ha : RowsB w va XA) (hb : RowsB w vb XB) (hk : IntB w vk K) (hkb : ∀ k, vk.ownBlock = some k → K ≠ [] → k < w.heap.size) :
    Calls Try.prog 4 #[va, vb, vk] w fun e w' => e = .returned (.bool true) ∧ Below w.heap.size w w' := by
  have HA := Lib.hid ha
  have HB := Lib.hid hb
  have HK := Lib.hid (And.intro hk hkb)
  have HAW := Lib.hid (fun W => awake_any W)
  obtain ⟨xa, ca, rfl, -, -, -⟩ := ha
  obtain ⟨xb, cb, rfl, -, -, -⟩ := hb
  obtain ⟨xk, ck, rfl, -⟩ := hk.shape
  clear hk hkb
  go_enter Try.func4, Try.ntmps4
  go_wp2_with fail
  refine (new_held 4000 w (by decide) (by decide)).mono ?_
  rintro e w1 ⟨pd, kv, rfl, hd1⟩
  have HD1 := Lib.hid hd1
  clear hd1
  go_wp2_with fail
  refine (open_fresh HD1.out (by decide) (by decide)).mono ?_
  rintro e w2 ⟨pl, rfl, hl2, -, hb2⟩
  have HL2 : Hid (Lg w.heap.size w w2 pl pd kv (stD 3998 []) (List.replicate 4000 (zeros 64)) []) := Lib.hid hl2
  clear hl2 hb2 HD1
  go_upto_region 3 with (fail)
  have HX2 := Lib.hid (heap_alloc_new w2 (.cells #[.pointer (some ⟨pl, 0, none⟩)] 28))
  have HL3 : Hid (Lg w.heap.size w (w2.alloc (.cells #[.pointer (some ⟨pl, 0, none⟩)] 28)) pl pd kv (stD 3998 []) (List.replicate 4000 (zeros 64)) []) := Lib.hid (HL2.out.below ((Below.refl _ _).alloc (Nat.le_refl _) _))
  clear HL2
  generalize w2.alloc (.cells #[.pointer (some ⟨pl, 0, none⟩)] 28) = w3 at *
  generalize w2.heap.size = bl at *
  go_upto_region 5 with (first
    | (go_at_call 8; refine (HAW.out _).mono ?_; rintro e w4 ⟨rfl, hb4⟩
       have HX4 := Lib.hid ((hb4.block bl (lt_of_block HX2.out)).trans HX2.out)
       have HL4 := Lib.hid (HL3.out.below hb4)
       have y4 := cell_of_row w4 bl 0 _ _ _ HX4.out
       simp only [List.getElem?_toArray, List.getElem?_cons_zero] at y4
       clear hb4))
  go_upto_region 6 with (fail)
  have hA5 : Below w4.heap.size w4 (w4.alloc (.cells #[.slice none 0 0] 29)) := (Below.refl _ _).alloc (Nat.le_refl _) _
  have HP5 : Hid (PutI w (w4.alloc (.cells #[.slice none 0 0] 29)) pl pd kv bl w4.heap.size 3998 0 []) := Lib.hid ⟨⟨_, _, HL4.out.below hA5, DskI.fresh 4000 (by decide)⟩, HL4.out.disk.below.size, (hA5.block bl (lt_of_block HX4.out)).trans HX4.out, .slice none 0 0, [], heap_alloc_new w4 _, ⟨World.ownsRow_nil _ _ _ _, fun _ h => by cases h⟩, rfl⟩
  clear hA5 y4 HL4 HX4 HL3 HX2
  generalize w4.alloc (.cells #[.slice none 0 0] 29) = w5 at *
  generalize w4.heap.size = ba at *
  have HPA := Lib.hid (putr_any HP5.out (by decide) (by decide) (by decide) HA.out)
  go_upto_region 9 with (first
    | (go_at_call 16; refine HPA.out.mono ?_; rintro e w6 ⟨rfl, hp6⟩
       have HP6 := Lib.hid hp6
       have y6 := cell_of_row w6 bl 0 _ _ _ hp6.box1
       simp only [List.getElem?_toArray, List.getElem?_cons_zero] at y6
       clear hp6)
    | (go_at_call 18; refine (sync_put HP6.out).mono ?_; rintro e w7 ⟨rfl, hp7⟩
       have HP7 := Lib.hid hp7
       clear hp7))
  obtain ⟨DA, hDA⟩ : ∃ x, ([] : List (List Nat)) ++ (XA.map cut5).take 12 = x := ⟨_, rfl⟩
  obtain ⟨sf, hsf⟩ : ∃ x, DA.length = x := ⟨_, rfl⟩
  have hfacts : sf ≤ 12 ∧ numC DA ≤ 156 ∧ ∀ d ∈ DA, d.length ≤ 65536 := by
    rw [List.nil_append, ← List.map_take] at hDA
    have h1 := numC_cut (XA.take 12)
    rw [hDA, List.length_take] at h1
    have h2 : DA.length ≤ 12 := by rw [← hDA, List.length_map, List.length_take]; omega
    refine ⟨by omega, by omega, fun d hd => ?_⟩
    rw [← hDA] at hd
    obtain ⟨x, _, rfl⟩ := List.mem_map.1 hd
    unfold cut5
    rw [List.length_take]
    omega
  rw [hDA] at HP7
  clear hDA HP6 y6 HPA HP5
  have HFA := Lib.hid hfacts
  have HSF := Lib.hid hsf
  obtain ⟨av7, M7, hbx7, hr7, hm7⟩ := HP7.out.all
  have hM7 : M7.length = sf := by rw [← hsf, ← hm7]; simp
  obtain ⟨oa7, oc7, rfl⟩ := own_shape hr7.row
  have y7 := cell_of_row w7 ba 0 _ _ _ hbx7
  simp only [List.getElem?_toArray, List.getElem?_cons_zero] at y7
  rw [hM7] at y7
  have HPB := Lib.hid (putr_any HP7.out (by decide) (by omega) (by omega) HB.out)
  obtain ⟨D, hD⟩ : ∃ x, DA ++ (XB.map cut5).take 12 = x := ⟨_, rfl⟩
  rw [hD] at HPB
  have hdl : D.length ≤ 24 ∧ (∀ d ∈ D, d.length ≤ 65536) ∧ D.take sf = DA := by
    refine ⟨?_, fun d hd => ?_, ?_⟩
    · rw [← hD, List.length_append, List.length_take]; omega
    · rw [← hD] at hd
      rcases List.mem_append.1 hd with hd | hd
      · exact hfacts.2.2 d hd
      · obtain ⟨x, _, rfl⟩ := List.mem_map.1 (List.mem_of_mem_take hd)
        unfold cut5
        rw [List.length_take]
        omega
    · rw [← hD, ← hsf, List.take_left]
  have HDL := Lib.hid hdl
  have HSD : Hid (sf ≤ D.length) := Lib.hid (by rw [← hD, ← hsf]; simp)
  clear hbx7 hr7 hm7 hM7 hD hdl hsf hfacts
  have hsf1 : (sf : Int) ≤ 12 := by have := HFA.out.1; omega
  go_upto_region 12 with (first
    | (go_at_call 16; refine HPB.out.mono ?_; rintro e w8 ⟨rfl, hp8⟩; have HP8 := Lib.hid hp8; clear hp8)
    | (go_at_call 19; refine (crash_put HP8.out HK.out.1 HK.out.2).mono ?_; rintro e w9 ⟨rfl, S, hfe, hs9⟩; have HFE := Lib.hid hfe; have HS9 := Lib.hid hs9; clear hfe hs9)
    | (go_at_call 20; refine (start_sur HS9.out).mono ?_; rintro e w10 ⟨rfl, hs10⟩; have HS10 := Lib.hid hs10; clear hs10))
  obtain ⟨q, num, hq, hnum, hop, hsafe, hN⟩ := HFE.out.opened (by decide) HDL.out.2.1
  have hsq : sf ≤ q := hsafe sf HSD.out (by rw [HDL.out.2.2]; exact Nat.le_refl _)
  have HOP := Lib.hid (fun W (h : SurI w W pd kv ba S D false) => open_sur h HFE.out hq hnum hop hN HDL.out.2.1 (by have := HDL.out.1; omega))
  obtain ⟨n, hn⟩ : ∃ x, D.length = x := ⟨_, rfl⟩
  have hn24 : n ≤ 24 := by have := HDL.out.1; omega
  have HN := Lib.hid hn
  rw [hn] at hq
  have z1 : ¬ (q : Int) < (sf : Int) := by omega
  have z2 : ¬ (n : Int) < (q : Int) := by omega
  have z3 : (q : Int) ≤ 24 := by omega
  have z4 : (0 : Int) ≤ (q : Int) := by omega
  have z5 : IntKind.i64.wrap (q : Int) = (q : Int) := wrap_small _ (by omega) (by omega)
  have z6 : wrap64 (q : Int) = (q : Int) := by unfold wrap64; omega
  have HQN := Lib.hid (And.intro hq hsq)
  clear hnum hop hsafe hN hq hsq hn
  go_upto_region 16 with (first
    | (go_at_call 15; refine (HOP.out _ HS10.out).mono ?_; rintro e w11 ⟨pl2, rfl, ho11⟩; have HO11 := Lib.hid ho11; clear ho11)
    | (go_at_call 21; refine (next_op HO11.out).mono ?_; rintro e w12 ⟨rfl, rfl⟩))
  have HO12 := Lib.hid (HO11.out.below (Below.refl _ _).drew)
  clear HO11
  generalize w11.drew = w12 at *
  obtain ⟨av, M, hbx, hr, hm⟩ := HO12.out.all
  have hM : M.length = n := by rw [← HN.out, ← hm]; simp
  obtain ⟨oa, oc, rfl⟩ := own_shape hr.row
  rw [hM] at hbx hr
  have y12 : w12.drew.cell? ⟨ba, 0, none⟩ = some (.slice oa n oc) := cell_of_row w12 ba 0 _ _ _ hbx
  have HQR : Hid (∀ W, Below w12.heap.size w12 W → RowsB W (.slice oa q oc) (D.take q)) := Lib.hid fun W hW => by
    have h1 := (AllR.rowsB hr hm HO12.out.lg.disk.below).below hW
    exact h1.take q (by rw [HN.out]; exact HQN.out.1)
  have HBL : Hid (ba < w12.heap.size) := Lib.hid (lt_of_block hbx)
  have hqoc : (q : Int) ≤ (oc : Int) := by
    obtain ⟨a, c, e, h1, _⟩ := AllR.rowsB hr hm HO12.out.lg.disk.below
    obtain ⟨-, -, rfl⟩ := Value.slice.inj e
    have := HQN.out.1
    rw [HN.out] at h1
    omega
  have zd1 : decide ((q : Int) < (sf : Int)) = false := decide_eq_false (by omega)
  have zd2 : decide ((n : Int) < (q : Int)) = false := decide_eq_false (by omega)
  have zd3 : decide (q < sf) = false := decide_eq_false (by omega)
  have zd4 : decide (n < q) = false := decide_eq_false (by omega)
  clear hbx hr hm hM
  go_cut [101] (fun u wx => u = .bool false ∧ Below w12.heap.size w12 wx)
  case first =>
    go_region_held3 (fun w' => w'.cell? ⟨ba, 0, none⟩ = some (.slice oa n oc))
      (first | with_reducible exact kb | with_reducible exact kc | with_reducible exact y12 | go_keep)
      (first
        | (go_at_call 22; refine (first_op (HO12.out.below (Below.refl _ _).drew)).mono ?_; rintro e w' ⟨rfl, rfl⟩)
        | (go_at_call 24; refine (recs_op (HO12.out.below (Below.refl _ _).drew)).mono ?_; rintro e w13 ⟨ra, rc, rfl, hrr, hb13⟩
           have HRR := Lib.hid hrr
           have HB13 := Lib.hid ((Below.refl w12.heap.size w12).drew.trans hb13)
           have kb : w13.cell? ⟨ba, 0, none⟩ = some (.slice oa n oc) := (hb13.cell (p := ⟨ba, 0, none⟩) HBL.out).trans y12
           clear hrr hb13)
        | (go_at_call 23; refine (sameR HRR.out (HQR.out _ HB13.out)).mono ?_; rintro e w14 ⟨rfl, hst⟩
           have HB14 := Lib.hid (HB13.out.trans (hst.bel.mono HB13.out.size))
           have kc : w14.cell? ⟨ba, 0, none⟩ = some (.slice oa n oc) := (hst.cell _).trans kb
           clear hst))
    all_goals (go_wp2_with fail; go_meet; exact ⟨rfl, HB14.out⟩)
  case rest =>
    obtain ⟨rfl, hb14⟩ := hcut
    have HO14 := Lib.hid (HO12.out.below hb14)
    clear hb14 y12 zd1 zd2 zd3 zd4 HQR HBL hqoc
    go_upto_region 21 with (first
      | (go_at_call 19; refine (crash_again HO14.out.sur).mono ?_; rintro e w15 ⟨rfl, hs15⟩; have HS15 := Lib.hid hs15; clear hs15)
      | (go_at_call 20; refine (start_sur HS15.out).mono ?_; rintro e w16 ⟨rfl, hs16⟩; have HS16 := Lib.hid hs16; clear hs16)
      | (go_at_call 15; refine (HOP.out _ HS16.out).mono ?_; rintro e w17 ⟨pl3, rfl, ho17⟩; have HO17 := Lib.hid ho17; clear ho17))
    obtain ⟨av, M, hbx, hr, hm⟩ := HO17.out.all
    have hM : M.length = n := by rw [← HN.out, ← hm]; simp
    obtain ⟨oa, oc, rfl⟩ := own_shape hr.row
    rw [hM] at hbx hr
    have y17 : w17.drew.cell? ⟨ba, 0, none⟩ = some (.slice oa n oc) := cell_of_row w17 ba 0 _ _ _ hbx
    have HQR : Hid (∀ W, Below w17.heap.size w17 W → RowsB W (.slice oa q oc) (D.take q)) := Lib.hid fun W hW => by
      have h1 := (AllR.rowsB hr hm HO17.out.lg.disk.below).below hW
      exact h1.take q (by rw [HN.out]; exact HQN.out.1)
    have HBL : Hid (ba < w17.heap.size) := Lib.hid (lt_of_block hbx)
    have hqoc : (q : Int) ≤ (oc : Int) := by
      obtain ⟨a, c, e, h1, _⟩ := AllR.rowsB hr hm HO17.out.lg.disk.below
      obtain ⟨-, -, rfl⟩ := Value.slice.inj e
      have := HQN.out.1
      rw [HN.out] at h1
      omega
    have z7 : IntKind.u64.wrap (q : Int) = (q : Int) := wraps_u64 _ (by omega) (by omega)
    have z8 : IntKind.u64.wrap (sf : Int) = (sf : Int) := wraps_u64 _ (by omega) (by omega)
    have zd1 : decide ((sf : Int) ≤ (q : Int)) = true := decide_eq_true (by have := HQN.out.2; omega)
    have zd2 : decide (sf ≤ q) = true := decide_eq_true (by have := HQN.out.2; omega)
    clear hbx hr hm hM
    go_cut [6] (fun u wx => u = .bool true ∧ Below w17.heap.size w17 wx)
    case first =>
      go_region_held3 (fun w' => w'.cell? ⟨ba, 0, none⟩ = some (.slice oa n oc))
        (first | with_reducible exact kb | with_reducible exact kc | with_reducible exact y17 | go_keep)
        (first
          | (go_at_call 21; refine (next_op (HO17.out.below (by repeat (first | with_reducible exact Below.refl _ _ | with_reducible exact HB18.out | refine Below.drew ?_)))).mono ?_; rintro e w' ⟨rfl, rfl⟩)
          | (go_at_call 24; refine (recs_op (HO17.out.below (by repeat (first | with_reducible exact Below.refl _ _ | refine Below.drew ?_)))).mono ?_; rintro e w18 ⟨ra, rc, rfl, hrr, hb18⟩
             have HRR := Lib.hid hrr
             have HB18 : Hid (Below w17.heap.size w17 w18) := Lib.hid (Below.trans (by repeat (first | with_reducible exact Below.refl _ _ | refine Below.drew ?_)) hb18)
             have kb : w18.cell? ⟨ba, 0, none⟩ = some (.slice oa n oc) := (hb18.cell (p := ⟨ba, 0, none⟩) HBL.out).trans y17
             clear hrr hb18)
          | (go_at_call 23; refine (sameR (RowsB.below HRR.out (by first | with_reducible exact Below.refl _ _ | with_reducible exact (Below.refl _ _).drew)) (HQR.out _ (by first | with_reducible exact HB18.out | with_reducible exact HB18.out.drew))).mono ?_; rintro e w19 ⟨rfl, hst⟩
             have HB19 : Hid (Below w17.heap.size w17 w19) := Lib.hid (by first | with_reducible exact HB18.out.trans (hst.bel.mono HB18.out.size) | with_reducible exact HB18.out.drew.trans (hst.bel.mono HB18.out.drew.size))
             have kc : w19.cell? ⟨ba, 0, none⟩ = some (.slice oa n oc) := (hst.cell _).trans kb
             clear hst))
      all_goals (go_wp2_with fail; go_meet; exact ⟨rfl, HB19.out⟩)
    case rest =>
      obtain ⟨rfl, hb19⟩ := hcut
      have HBF := Lib.hid (HO17.out.lg.disk.below.trans (hb19.mono HO17.out.lg.disk.below.size))
      clear hb19
      go_wp2_with fail
      go_ret
      exact ⟨rfl, HBF.out⟩
end Go.Proofs.Ytmkedanlpapndaa
