/-
  WalSafe: what is known of the log while records are put; put itself.
-/
import Derived.Test.YtmkedanlpapndaaSafeR
import Derived.Test.YtmkedanlpapndaaSameR
import Derived.Test.YtmkedanlpapndaaCrashE
import Derived.Deep.CutBlock
import Derived.Deep.CutRange
import Derived.Deep.DeepCutAuto
import Derived.Laws.EntriesVeiled
namespace Go.Proofs.Ytmkedanlpapndaa
set_option linter.unusedVariables false
open Go.RowKit

theorem DskI.fit {r m : Nat} {D : List (List Nat)} {S : List (List Nat)} {W : List (Nat × List Nat)} (h : DskI r m D S W) (hr : r ≤ 65534) (num : Nat) (hn : num ≤ 100000) : Fit (stN r D num) S W := by
  have hro := h.room
  have hlen : D.length ≤ numC D := by
    have : ∀ (E : List (List Nat)), E.length ≤ numC E := by
      intro E
      induction E with
      | nil => simp
      | cons d E ih =>
        have := cellsN_pos d.length
        rw [numC_cons, List.length_cons]
        omega
    exact this D
  refine ⟨h.len, by show 0 < r; omega, hro, ?_, ?_, ?_, ?_, ?_, ?_, ?_, hr⟩
  · show num ≤ _; omega
  · show numC D ≤ _; omega
  · show 0 ≤ _; omega
  · show 0 ≤ _; omega
  · show (entsOf 0 D).length ≤ _
    rw [entsOf_length]; omega
  · rw [h.wait]; simp; omega
  · show numC D ≤ r; omega

/-- rows of bytes of the arguments, in a row that is the law's own -/
structure AllR (w0 w : World) (av : Value) (M : List (Value × List Nat)) : Prop where
  row : w.ownsRow w0.heap.size 34 1 av M.length (M.map (·.1))
  of : ∀ x ∈ M, RowB w0 x.1 x.2
/-- what is known between two records that are put -/
structure PutI (w0 w : World) (pl pd : Nat) (kv : Value) (bl ba : Nat) (r m : Nat) (D : List (List Nat)) : Prop where
  st : ∃ S W, Lg w0.heap.size w0 w pl pd kv (stD r D) S W ∧ DskI r m D S W
  bg : w0.heap.size ≤ ba
  box1 : w.heap[bl]? = some (.cells #[.pointer (some ⟨pl, 0, none⟩)] 28 (0, 0))
  all : ∃ av M, w.heap[ba]? = some (.cells #[av] 29 (0, 0)) ∧ AllR w0 w av M ∧ M.map (·.2) = D
theorem RowB.head {w : World} {a : Option Addr} {len cap k : Nat} {l : List Nat} (h : RowB w (.slice a len cap) l) (hk : k ≤ len) : RowB w (.slice a k cap) (l.take k) := by
  obtain ⟨a2, len2, cap2, e, h1, h2, h3, h4, h5, h6⟩ := h
  obtain ⟨rfl, rfl, rfl⟩ : a = a2 ∧ len = len2 ∧ cap = cap2 := by simpa using e
  refine ⟨a, k, cap, rfl, by simp; omega, by omega, h3, fun n hn => h4 n (List.mem_of_mem_take hn), fun e => ?_, fun x hx i hi => ?_⟩
  · have := h5 e; exact ⟨by omega, this.2⟩
  · have hi2 : i < l.length := by simp at hi; omega
    rw [List.getElem_take]
    exact h6 x hx i hi2
theorem RowB.rowK0 {w0 w : World} {v : Value} {l : List Nat} (h : RowB w0 v l) (hb : Below w0.heap.size w0 w) : RowK w0.heap.size w v l := by
  refine ⟨h.below hb, fun a len cap e h0 => .inl ?_⟩
  obtain ⟨a2, len2, cap2, e2, h1, h2, h3, h4, h5, h6⟩ := h
  rw [e] at e2
  obtain ⟨rfl, rfl, rfl⟩ : some a = a2 ∧ len = len2 ∧ cap = cap2 := by simpa using e2
  have hc := h6 a rfl 0 (by omega)
  have := World.block_lt_of_cell? w0 _ hc
  rwa [show (a.add 0).block = a.block by unfold Addr.add; split <;> rfl] at this
theorem AllR.rowsB {w0 w : World} {av : Value} {M : List (Value × List Nat)} {D : List (List Nat)} (h : AllR w0 w av M) (hm : M.map (·.2) = D) (hb : Below w0.heap.size w0 w) : RowsB w av D := by
  subst hm
  have hl : (M.map (·.2)).length = M.length := by simp
  rcases h.row.2 with ⟨e, h1⟩ | ⟨g, cap, cur, e, hb2, hh, hc, hmx, hs, ht⟩
  · have h0 : M = [] := List.eq_nil_of_length_eq_zero h1
    subst h0
    exact ⟨none, 0, by rw [e]; rfl, Nat.le_refl _, Nat.zero_le _, .inl rfl⟩
  · refine ⟨_, cap, by rw [e, hl], by rw [hl]; exact hc, hmx, .inr ⟨g, 0, rfl, fun i hi => ?_⟩⟩
    have hi2 : i < M.length := by omega
    have hr := (h.of _ (List.getElem_mem hi2)).below hb
    obtain ⟨a, l, c, e, _⟩ := id hr
    rw [e] at hr
    refine ⟨a, l, c, ?_, by rw [List.getElem_map]; exact hr⟩
    rw [Nat.zero_add, cell_of_row _ _ _ _ 34 (0, 0) hh]
    have h3 : (M.map (·.1))[i]? = some M[i].1 := by rw [List.getElem?_map, List.getElem?_eq_getElem hi2]; rfl
    rw [← ht, List.getElem?_take_of_lt (by omega), e] at h3
    simpa using h3
/-- what put makes of a record -/
def cut5 (d : List Nat) : List Nat := d.take 500
theorem numC_cut (X : List (List Nat)) : numC (X.map cut5) ≤ 13 * X.length := by
  induction X with
  | nil => simp [numC]
  | cons d X ih =>
    rw [List.map_cons, numC_cons, List.length_cons]
    have : cellsN (cut5 d).length ≤ 13 := by
      unfold cellsN cut5
      rw [List.length_take]
      omega
    omega

theorem Lg.beside {B : Nat} {w0 w w' : World} {pl pd : Nat} {kv : Value} {s : LgS} {S : List (List Nat)} {W : List (Nat × List Nat)} {own : Nat → Prop} (h : Lg B w0 w pl pd kv s S W) (hb : Beside own w w')
    (ho : ∀ k, own k → B ≤ k ∧ ∃ cs t fr, w.heap[k]? = some (.cells cs t fr) ∧ t ≠ 61 ∧ t ≠ 87 ∧ t ≠ 89 ∧ t ≠ 72 ∧ t ≠ 80 ∧ t ≠ 5) : Lg B w0 w' pl pd kv s S W := by
  obtain ⟨ev, L, hl, he, hL⟩ := h.log
  refine ⟨h.disk.beside2 hb (fun k hk => ?_) (fun k hk => (ho k hk).1), ⟨ev, L, hl.beside hb (fun hk => ?_), he.beside hb (fun k hk cs t fr hh => ?_), hL⟩, h.base⟩
  · obtain ⟨_, cs, t, fr, hh, h1, h2, h3, _⟩ := ho k hk
    exact ⟨cs, t, fr, hh, h1, h2, h3⟩
  · obtain ⟨_, cs, t, fr, hh, h1, h2, h3, h4, _⟩ := ho _ hk
    unfold LgV at hl
    rw [hl] at hh
    simp at hh
    exact h4 hh.2.1.symm
  · obtain ⟨_, cs2, t2, fr2, hh2, h1, h2, h3, h4, h5, h6⟩ := ho k hk
    rw [hh] at hh2
    simp at hh2
    obtain ⟨rfl, rfl, rfl⟩ := hh2
    exact ⟨h5, h6⟩
theorem ownsRow_lq {w w' : World} {B : Nat} {t : TypeId} {sz : Nat} {v : Value} {n : Nat} {xs : List Value} (h : w.ownsRow B t sz v n xs) (hq : LQ w w') (h1 : t ≠ 61) (h2 : t ≠ 87) (h3 : t ≠ 89) (h4 : t ≠ 72) (h5 : t ≠ 80) : w'.ownsRow B t sz v n xs := by
  refine ⟨h.1, ?_⟩
  rcases h.2 with h6 | ⟨g, cap, cur, rfl, hg, hh, r⟩
  · exact .inl h6
  · exact .inr ⟨g, cap, cur, rfl, hg, hq.keep g _ _ _ hh h1 h2 h3 h4 h5, r⟩

set_option maxRecDepth 100000 in
set_option maxHeartbeats 4000000 in
theorem putr_any {w0 w : World} {pl pd : Nat} {kv : Value} {bl ba r m : Nat} {D : List (List Nat)} (h : PutI w0 w pl pd kv bl ba r m D) (hr : r ≤ 65534) (hroom : numC D + 156 < r) (hD : D.length ≤ 1000) {v : Value} {X : List (List Nat)} (hx : RowsB w0 v X) :
    Calls Try.prog 16 #[v, .pointer (some ⟨bl, 0, none⟩), .pointer (some ⟨ba, 0, none⟩)] w fun e w' => e = .returned (.bool true) ∧ PutI w0 w' pl pd kv bl ba r m (D ++ (X.map cut5).take 12) := by
  have HX := Lib.hid hx
  have HP := Lib.hid h
  obtain ⟨xa, xc, rfl, hx1, hx2, -⟩ := hx
  obtain ⟨i0, hi, hz0, hz1, hz2⟩ := info_parts Try.info34
  have HI := Lib.hid hi
  have hml : X.length ≤ 9223372036854775807 := by unfold maxLen at hx2; omega
  have HXC := Lib.hid (And.intro hx1 hx2)
  clear h hi hx1 hx2
  go_enter Try.func16, Try.ntmps16
  go_wp2_with fail
  go_loopw [5] (fun i wr => ∃ k : Nat, k ≤ X.length ∧ k ≤ 12 ∧ i = .int .i64 (k : Nat) ∧ PutI w0 wr pl pd kv bl ba r m (D ++ (X.map cut5).take k)) (fun i _ => 13 - (RowKit.intOf i).toNat)
  case atStart => exact ⟨0, Nat.zero_le _, Nat.zero_le _, rfl, by simpa using HP.out⟩
  case round =>
    obtain ⟨k, hk, hk12, rfl, hp⟩ := hrel
    by_cases hgo : k < X.length ∧ k < 12
    · obtain ⟨g1, g2⟩ := hgo
      have g1z : (k : Int) < (X.length : Int) := by omega
      have g2z : (k : Int) < 12 := by omega
      obtain ⟨a2, c2, e2, -, -, h3⟩ := HX.out
      obtain ⟨b, off, rfl, hcx⟩ : ∃ b off, xa = some ⟨b, off, none⟩ ∧ ∀ i (h : i < X.length), ∃ x l c, w0.cell? ⟨b, off + i, none⟩ = some (.slice x l c) ∧ RowB w0 (.slice x l c) X[i] := by
        rcases h3 with h3 | ⟨b, off, e, hc⟩
        · rw [h3] at g1; simp at g1
        · exact ⟨b, off, by rw [← e]; exact (Value.slice.inj e2).1, hc⟩
      obtain ⟨x, l, c, hcell, hrow⟩ := hcx k g1
      obtain ⟨d, hd⟩ : ∃ d, X[k] = d := ⟨_, rfl⟩
      rw [hd] at hrow
      obtain ⟨S, W, hlg, hdi⟩ := hp.st
      obtain ⟨av, M, hbx2, hall, hmd⟩ := hp.all
      have hbw := hlg.disk.below
      have hcw : wr.cell? ⟨b, off + k, none⟩ = some (.slice x l c) := by rw [hbw.cell (World.block_lt_of_cell? w0 _ hcell)]; exact hcell
      have HD1 : Hid ((X.map cut5).take (k + 1) = (X.map cut5).take k ++ [cut5 d]) := Lib.hid (by rw [List.take_succ_eq_append_getElem (by simpa using g1), List.getElem_map, hd])
      obtain ⟨D1, hD1⟩ : ∃ D1, D ++ (X.map cut5).take k = D1 := ⟨_, rfl⟩
      rw [hD1] at hdi hlg hmd
      have hn1 : numC D1 ≤ numC D + 13 * k := by
        rw [← hD1, numC_append]
        have := numC_cut (X.take k)
        rw [List.length_take, List.map_take] at this
        omega
      have hcl : (cut5 d).length ≤ 500 := by unfold cut5; rw [List.length_take]; omega
      have hcn : cellsN (cut5 d).length ≤ 13 := by unfold cellsN; omega
      have hro : numC D1 + cellsN (cut5 d).length < r := by omega
      have hfit : Fit (stD r D1) S W := hdi.fit hr (numC D1 + 1) (by omega)
      have HAP := Lib.hid (fun u (hu : RowB w0 u (cut5 d)) => append_any hlg hfit (hu.rowK0 hbw) (Nat.le_trans hcl (by decide)) (show numC D1 + cellsN (cut5 d).length ≤ r by omega))
      have HDI := Lib.hid (hdi.app (cut5 d) hro)
      have HAS := Lib.hid (appS_eq r D1 (cut5 d) hro)
      have HB1 := Lib.hid hp.box1
      have HB2 := Lib.hid hbx2
      have HBG := Lib.hid hp.bg
      have HALL := Lib.hid hall
      have HMD := Lib.hid hmd
      have HDD := Lib.hid hD1
      have HLM : Hid (M.length ≤ 2000) := Lib.hid (by
        have h1 := congrArg List.length hmd
        rw [List.length_map, ← hD1, List.length_append, List.length_take] at h1
        omega)
      have HK := Lib.hid (And.intro g1 g2)
      have HROW := Lib.hid hrow
      have y1 := cell_of_row wr bl 0 _ _ _ hp.box1
      simp only [List.getElem?_toArray, List.getElem?_cons_zero] at y1
      clear hp hlg hdi hbx2 hall hmd hbw hcell hrow hD1 hn1 hcl hcn hro hfit hcx h3 e2 hd
      go_upto_if 23 with (fail)
      go_cut [6] (fun u wx => wx = wr ∧ ∃ l2, u = .slice x l2 c ∧ RowB w0 u (cut5 d))
      case first =>
        by_cases h5 : 500 < l
        · have h5z : (500 : Int) < (l : Int) := by omega
          have h5c : (500 : Int) ≤ (c : Int) := by
            obtain ⟨_, _, _, e, -, h, -⟩ := HROW.out
            obtain ⟨-, rfl, rfl⟩ := Value.slice.inj e
            omega
          go_wp2_with fail
          go_meet
          exact ⟨rfl, 500, rfl, HROW.out.head (by omega)⟩
        · have h5z : ¬ (500 : Int) < (l : Int) := by omega
          go_wp2_with fail
          go_meet
          refine ⟨rfl, l, rfl, ?_⟩
          have e : cut5 d = d := by
            obtain ⟨_, _, _, e, h1, -⟩ := HROW.out
            obtain ⟨-, rfl, -⟩ := Value.slice.inj e
            unfold cut5
            exact List.take_of_length_le (by omega)
          rw [e]
          exact HROW.out
      case rest =>
        obtain ⟨rfl, l2, rfl, hu⟩ := hcut
        have HU := Lib.hid hu
        have HAP2 := Lib.hid (HAP.out _ hu)
        clear HAP hu
        go_upto_region 9 with (first | (go_at_call 17; refine HAP2.out.mono ?_; rintro e w5 ⟨rfl, hl5, hq5⟩; have HL5 := Lib.hid hl5; have HQ5 := Lib.hid hq5; clear hl5 hq5))
        obtain ⟨oa, oc, rfl⟩ := own_shape HALL.out.row
        have hb2 := HQ5.out.keep ba _ _ _ HB2.out (by decide) (by decide) (by decide) (by decide) (by decide)
        have hb1 := HQ5.out.keep bl _ _ _ HB1.out (by decide) (by decide) (by decide) (by decide) (by decide)
        have hr5 := ownsRow_lq HALL.out.row HQ5.out (by decide) (by decide) (by decide) (by decide) (by decide)
        have y2 := cell_of_row w5 ba 0 _ _ _ hb2
        simp only [List.getElem?_toArray, List.getElem?_cons_zero] at y2
        have hA : Below w5.heap.size w5 (w5.alloc (.cells #[.slice x l2 c] 34)) := (Below.refl _ _).alloc (Nat.le_refl _) _
        have HBX := Lib.hid (heap_alloc_new w5 (.cells #[.slice x l2 c] 34))
        have HB25 := Lib.hid hb2
        have HB15 := Lib.hid hb1
        have HR5 := Lib.hid hr5
        have HRA := Lib.hid (ownsRow_qb hr5 (Below.qb hA) (fun k hk => (World.ownsRow.lt hr5 k hk).2) (by decide) (by decide) (by decide))
        have HA5 := Lib.hid hA
        have HSZ : Hid (w0.heap.size ≤ (w5.alloc (.cells #[.slice x l2 c] 34)).heap.size) := Lib.hid (Nat.le_trans HL5.out.disk.below.size hA.size)
        clear hb2 hb1 hr5 hA hcw y1 HROW HAP2
        go_wp2_with (first
          | (at_builtin; go_loud (refine wpList_append_own _ rfl (.tmp 30) (.tmp 32) 29 rfl w0.heap.size 34 i0 _ 1 24 Try.underlying29 HI.out hz0 hz1 hz2 rfl (by decide) (.slice oa M.length oc) M.length (M.map (·.1)) rfl HRA.out ⟨w5.heap.size, 0, none⟩ 1 1 [.slice x l2 c] rfl rfl (World.news_of_block (cs := #[.slice x l2 c]) (t := 34) (fr := (0, 0)) HBX.out) (by simp [Value.oneCell']) (by have := HLM.out; unfold maxLen; omega) (by have := HLM.out; omega) HSZ.out ?_)))
        intro o w6 ho hgr _
        obtain ⟨oa2, oc2, rfl⟩ := own_shape ho
        have hne : ∀ k t cs fr, (w5.alloc (.cells #[.slice x l2 c] 34)).heap[k]? = some (.cells cs t fr) → t ≠ 34 → (Value.slice oa M.length oc).ownBlock ≠ some k := fun k t cs fr hh ht e => ownsRow_ne HRA.out hh (by intro e; exact ht (by first | exact e | exact e.symm)) k e rfl
        have hba5 := (HA5.out.block ba (lt_of_block HB25.out)).trans HB25.out
        have hbl5 := (HA5.out.block bl (lt_of_block HB15.out)).trans HB15.out
        have hba6 := (hgr.block ba (lt_of_block hba5) (fun e => hne _ _ _ _ hba5 (by decide) e.symm)).trans hba5
        have hbl6 := (hgr.block bl (lt_of_block hbl5) (fun e => hne _ _ _ _ hbl5 (by decide) e.symm)).trans hbl5
        have y3 := cell_of_row w6 ba 0 _ _ _ hba6
        simp only [List.getElem?_toArray, List.getElem?_cons_zero] at y3
        have f3 := frozen_of_row w6 ba 0 _ _ hba6
        have HBA6 := Lib.hid hba6
        have HBL6 := Lib.hid hbl6
        have HBA5 := Lib.hid hba5
        have HO6 := Lib.hid ho
        have HG6 := Lib.hid hgr
        clear hne hba5 hbl5 hba6 hbl6 ho hgr
        go_wp2_with fail
        go_roundw
        case rel =>
          have hbs : Beside (fun k => k = ba ∨ (Value.slice oa M.length oc).ownBlock = some k) w5 (w6.setCell ⟨ba, 0, none⟩ (.slice oa2 (M.length + 1) oc2)) := by
            have h1 : Beside (fun k => k = ba ∨ (Value.slice oa M.length oc).ownBlock = some k) w5 (w5.alloc (.cells #[.slice x l2 c] 34)) := (Beside.refl _ _).alloc _
            exact (h1.grown HG6.out (fun k hk => .inl (.inr hk))).setCell (p := ⟨ba, 0, none⟩) (.inl (.inl rfl)) _
          have hlg := HL5.out
          rw [HAS.out] at hlg
          have hnb : bl ≠ ba := fun e => by
            have h1 := HBL6.out
            rw [e, HBA6.out] at h1
            simp at h1
          have hdd : D ++ (X.map cut5).take (k + 1) = D1 ++ [cut5 d] := by rw [HD1.out, ← HDD.out, List.append_assoc]
          refine ⟨k + 1, HK.out.1, HK.out.2, by go_num, ?_⟩
          rw [hdd]
          refine ⟨⟨S, _, hlg.beside hbs ?_, HDI.out⟩, HBG.out, (Below.heap_setCell _ _ _ _ (fun e => hnb e)).trans HBL6.out, .slice oa2 (M.length + 1) oc2, M ++ [(.slice x l2 c, cut5 d)], ?_, ⟨?_, ?_⟩, ?_⟩
          · rintro k2 (rfl | hk2)
            · exact ⟨HBG.out, _, _, _, HB25.out, by decide, by decide, by decide, by decide, by decide, by decide⟩
            · obtain ⟨h1, h2⟩ := World.ownsRow.lt HR5.out k2 hk2
              rcases HR5.out.2 with ⟨e, _⟩ | ⟨g, cap, cur, e, hg, hh, _⟩
              · rw [e] at hk2; cases hk2
              · rw [e] at hk2
                obtain rfl : g = k2 := by simpa [Value.ownBlock] using hk2
                exact ⟨h1, _, _, _, hh, by decide, by decide, by decide, by decide, by decide, by decide⟩
          · exact heap_setCell_same w6 ba 0 _ 29 _ HBA6.out
          · have h1 := HO6.out
            have h2 : (M ++ [((.slice x l2 c : Value), cut5 d)]).length = M.length + 1 := by simp
            have h3 : (M ++ [((.slice x l2 c : Value), cut5 d)]).map (·.1) = M.map (·.1) ++ [.slice x l2 c] := by simp
            rw [h2, h3]
            refine ownsRow_beside (own := fun k => k = ba) h1 ((Beside.refl (fun k => k = ba) w6).setCell (p := ⟨ba, 0, none⟩) (.inl rfl) _) ?_
            intro k2 hk2 e
            subst e
            exact ownsRow_ne h1 HBA6.out (by decide) _ hk2 rfl
          · intro y hy
            rcases List.mem_append.1 hy with hy | hy
            · exact HALL.out.of y hy
            · obtain rfl := List.mem_singleton.1 hy
              exact HU.out
          · rw [List.map_append, HMD.out]
            rfl
        case measure => simp [intOf]; omega
    · have HPR := Lib.hid hp
      have e : (X.map cut5).take k = (X.map cut5).take 12 := by
        rcases Nat.lt_or_ge k 12 with h | h
        · obtain rfl : k = X.length := by omega
          rw [List.take_of_length_le (by simp), List.take_of_length_le (by simp; omega)]
        · obtain rfl : k = 12 := by omega
          rfl
      rw [e] at HPR
      clear hp e
      by_cases h1 : k < X.length
      · have h1z : (k : Int) < (X.length : Int) := by omega
        have h2z : ¬ (k : Int) < 12 := by omega
        go_wp2_with fail
        go_ret
        exact ⟨rfl, HPR.out⟩
      · have h1z : ¬ (k : Int) < (X.length : Int) := by omega
        go_wp2_with fail
        go_ret
        exact ⟨rfl, HPR.out⟩
end Go.Proofs.Ytmkedanlpapndaa
