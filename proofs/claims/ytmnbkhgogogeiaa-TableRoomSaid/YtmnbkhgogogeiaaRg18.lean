/-
  Several texts of one proof, each in a section of its own: Tab, Appl.
-/
import Derived.Test.YtmnbkhgogogeiaaRg17
namespace Go.Proofs.Ytmnbkhgogogeiaa
section
set_option linter.unusedVariables false
open Go.RowKit

/-- all blocks but a disk's, a log's and a table's lie as they lay -/
structure LT (w w' : World) : Prop where
  size : w.heap.size ≤ w'.heap.size
  keep : ∀ (k : Nat) cs t fr, w.heap[k]? = some (.cells cs t fr) → t ≠ 62 → t ≠ 143 → t ≠ 145 → t ≠ 91 → t ≠ 98 → t ≠ 68 → t ≠ 79 → w'.heap[k]? = some (.cells cs t fr)
theorem LT.refl (w : World) : LT w w := ⟨Nat.le_refl _, fun _ _ _ _ h _ _ _ _ _ _ _ => h⟩
theorem LT.trans {a b c : World} (h : LT a b) (k : LT b c) : LT a c := ⟨Nat.le_trans h.size k.size, fun i cs t fr hh h1 h2 h3 h4 h5 h6 h7 => k.keep i cs t fr (h.keep i cs t fr hh h1 h2 h3 h4 h5 h6 h7) h1 h2 h3 h4 h5 h6 h7⟩
theorem LQ.lt {a b : World} (h : LQ a b) : LT a b := ⟨h.size, fun i cs t fr hh h1 h2 h3 h4 h5 _ _ => h.keep i cs t fr hh h1 h2 h3 h4 h5⟩
theorem Below.lt {w w' : World} (h : Below w.heap.size w w') : LT w w' := (Below.lq h).lt
theorem LT.beside {a b : World} {own : Nat → Prop} (hb : Beside own a b) (h : ∀ k, own k → ∀ cs t fr, a.heap[k]? = some (.cells cs t fr) → t = 68 ∨ t = 79) : LT a b :=
  ⟨hb.size, fun k cs t fr hh h1 h2 h3 h4 h5 h6 h7 => by
    rw [hb.block k (lt_of_block hh) (fun hc => by rcases h k hc _ _ _ hh with h | h; exact h6 h; exact h7 h)]
    exact hh⟩
theorem ownsRow_lt {w w' : World} {B : Nat} {t : TypeId} {sz : Nat} {v : Value} {n : Nat} {xs : List Value} (h : w.ownsRow B t sz v n xs) (hq : LT w w') (h1 : t ≠ 62) (h2 : t ≠ 143) (h3 : t ≠ 145) (h4 : t ≠ 91) (h5 : t ≠ 98) (h7 : t ≠ 68) (h8 : t ≠ 79) : w'.ownsRow B t sz v n xs := by
  refine ⟨h.1, ?_⟩
  rcases h.2 with h6 | ⟨g, cap, cur, rfl, hg, hh, r⟩
  · exact .inl h6
  · exact .inr ⟨g, cap, cur, rfl, hg, hq.keep g _ _ _ hh h1 h2 h3 h4 h5 h7 h8, r⟩
theorem OwnB.lt {w w' : World} {B : Nat} {v : Value} {l : List Nat} (h : OwnB w B v l) (hq : LT w w') : OwnB w' B v l := ownsRow_lt h hq (by decide) (by decide) (by decide) (by decide) (by decide) (by decide) (by decide)
theorem ChR.lt {w w' : World} {B : Nat} {v : Value} {L : List Ch} (h : ChR w B v L) (hq : LT w w') : ChR w' B v L :=
  ⟨ownsRow_lt h.row hq (by decide) (by decide) (by decide) (by decide) (by decide) (by decide) (by decide), fun x hx => ⟨(h.own x hx).1.lt hq, (h.own x hx).2.1.lt hq, (h.own x hx).2.2⟩⟩

/-- a table, its log and its disk between two calls: u bounds the cells that were used -/
structure Tb (B : Nat) (w0 w : World) (pt pl pd : Nat) (kv : Value) (ring u sec : Nat) (P : List (List Nat × List Nat)) : Prop where
  st : ∃ s S W, Lg B w0 w pl pd kv s S W ∧ Fit s S W ∧ s.ring = ring ∧ s.used ≤ u ∧ s.number ≤ u + 1 ∧ s.ents.length ≤ u ∧ W.length ≤ u
  tb : ∃ cost pv L, TbV w pt (.pointer (some ⟨pl, 0, none⟩)) sec cost pv ∧ cost ≤ 3 * u ∧ PairR w B pv L ∧ L.map Pr.of = P
  base : B ≤ pt
  few : u ≤ 65534
theorem PairR.below {w w' : World} {B : Nat} {pv : Value} {L : List Pr} (h : PairR w B pv L) (hb : Below w.heap.size w w') : PairR w' B pv L := h.lq (Below.lq hb)
theorem Tb.below {B : Nat} {w0 w w' : World} {pt pl pd : Nat} {kv : Value} {ring u sec : Nat} {P : List (List Nat × List Nat)} (h : Tb B w0 w pt pl pd kv ring u sec P) (hb : Below w.heap.size w w') : Tb B w0 w' pt pl pd kv ring u sec P := by
  obtain ⟨⟨s, S, W, hl, hf⟩, ⟨cost, pv, L, ht, hc, hr, hm⟩, hB, hu⟩ := h
  exact ⟨⟨s, S, W, hl.below hb, hf⟩, ⟨cost, pv, L, ht.below hb, hc, hr.below hb, hm⟩, hB, hu⟩
theorem TbV.lq {w w' : World} {pt : Nat} {lv : Value} {sec cost : Nat} {pv : Value} (h : TbV w pt lv sec cost pv) (hq : LQ w w') : TbV w' pt lv sec cost pv :=
  hq.keep pt _ _ _ h (by decide) (by decide) (by decide) (by decide) (by decide)
theorem cellsN_mono {a b : Nat} (h : a ≤ b) : cellsN a ≤ cellsN b := by unfold cellsN; omega
theorem TbV.set2 {w : World} {pt : Nat} {lv : Value} {sec cost : Nat} {pv : Value} (h : TbV w pt lv sec cost pv) (n : Nat) : TbV (w.setCell ⟨pt, 2, none⟩ (.int .i64 (n : Nat))) pt lv sec n pv := heap_setCell_same w pt 2 _ 68 _ h
theorem TbV.set3 {w : World} {pt : Nat} {lv : Value} {sec cost : Nat} {pv : Value} (h : TbV w pt lv sec cost pv) (v : Value) : TbV (w.setCell ⟨pt, 3, none⟩ v) pt lv sec cost v := heap_setCell_same w pt 3 _ 68 _ h
theorem Lg.beside {B : Nat} {w0 w w' : World} {pl pd : Nat} {kv : Value} {s : LgS} {S : List (List Nat)} {W : List (Nat × List Nat)} {own : Nat → Prop} (h : Lg B w0 w pl pd kv s S W) (hb : Beside own w w')
    (ho : ∀ k, own k → B ≤ k ∧ ∃ cs t fr, w.heap[k]? = some (.cells cs t fr) ∧ t ≠ 62 ∧ t ≠ 143 ∧ t ≠ 145 ∧ t ≠ 91 ∧ t ≠ 98 ∧ t ≠ 5) : Lg B w0 w' pl pd kv s S W := by
  obtain ⟨ev, L, hl, he, hL⟩ := h.log
  refine ⟨h.disk.beside2 hb (fun k hk => ?_) (fun k hk => (ho k hk).1), ⟨ev, L, hl.beside hb (fun hk => ?_), he.beside hb (fun k hk cs t fr hh => ?_), hL⟩, h.base⟩
  · obtain ⟨_, cs, t, fr, hh, h1, h2, h3, _⟩ := ho k hk
    exact ⟨cs, t, fr, hh, h1, h2, h3⟩
  · obtain ⟨_, cs, t, fr, hh, h1, h2, h3, h4, _⟩ := ho _ hk
    unfold LgV at hl
    rw [hl] at hh
    simp at hh
    exact h4 hh.2.1.symm
  · obtain ⟨_, cs2, t2, fr2, hh2, h1, h2, h3, h4, h5, h6⟩ := ho k hk
    rw [hh] at hh2
    simp at hh2
    obtain ⟨rfl, rfl, rfl⟩ := hh2
    exact ⟨h5, h6⟩

set_option maxRecDepth 100000 in
set_option maxHeartbeats 4000000 in
theorem twrite_any {B : Nat} {w0 w : World} {pt pl pd : Nat} {kv : Value} {ring u sec : Nat} {P : List (List Nat × List Nat)} (h : Tb B w0 w pt pl pd kv ring u sec P) {v : Value} {C : List Chg} (hv : ChgV w v C) (hC : C.length ≤ 60) (hw : weigh C ≤ 61440) (N : Nat) (hN : 16 + 27 * C.length + weigh C = N) (hroom : u + cellsN N ≤ ring) (hring : ring ≤ 65534) :
    Calls Try.prog 34 #[.pointer (some ⟨pt, 0, none⟩), v] w fun e w' => e = .returned (.int .i64 0) ∧ Tb B w0 w' pt pl pd kv ring (u + cellsN N) sec P ∧ LT w w' := by
  obtain ⟨sa, sl, sc, rfl⟩ : ∃ sa sl sc, v = .slice sa sl sc := by obtain ⟨a, c, e, _⟩ := hv; exact ⟨_, _, _, e⟩
  have HR := Lib.hid (record_any hv (by omega) hw)
  rw [hN] at HR
  obtain ⟨⟨s, S, W, hl, hf, hrg, hus, hnu, hen, hwl⟩, ⟨cost, pv, L, ht, hc, hr, hm⟩, hB, hu⟩ := h
  have HL := Lib.hid hl
  have HF := Lib.hid hf
  have HT := Lib.hid ht
  have HP := Lib.hid (And.intro hr hm)
  have HN : Hid (N ≤ 65536 ∧ s.used ≤ u ∧ s.number ≤ u + 1 ∧ s.ents.length ≤ u ∧ W.length ≤ u ∧ s.ring = ring ∧ cost ≤ 3 * u ∧ u + cellsN N ≤ ring ∧ ring ≤ 65534 ∧ B ≤ pt) := Lib.hid ⟨by omega, hus, hnu, hen, hwl, hrg, hc, hroom, hring, hB⟩
  clear hl hf ht hr hm hv hus hnu hen hwl hrg hc hroom hring hB hC hw hN hu
  go_enter Try.func34, Try.ntmps34
  go_wp2_with fail
  refine HR.out.mono ?_
  rintro e w1 ⟨o, d, rfl, ho, hdl, hdt, hb1⟩
  obtain ⟨oa, oc, rfl⟩ := ho.shape
  have ht1 := HT.out.below hb1
  have HT1 := Lib.hid ht1
  obtain ⟨t0, -, -, -⟩ := ht1.cells
  have hcd : cellsN d.length ≤ cellsN N := cellsN_mono hdl
  have HAP := Lib.hid (append_any (HL.out.below hb1) HF.out (ho.rowK (B := B) hdt) (by have := HN.out.1; omega) (by have := HN.out; omega))
  have HFA := Lib.hid (HF.out.app (data := d) (by have := HN.out.1; omega) (by have := HN.out; omega) (by have := HN.out; omega) (by have := HN.out; omega) (by have := HN.out; omega))
  have HD := Lib.hid (And.intro hcd hdl)
  have HB1 := Lib.hid hb1
  clear ho hdl hdt hb1 ht1 hcd
  go_upto_region 4 with (first | (go_at_call 63; refine HAP.out.mono ?_; rintro e w2 ⟨rfl, hl2, hq2⟩; have HL2 := Lib.hid hl2; have HQ2 := Lib.hid hq2; clear hl2 hq2))
  have ht2 := HT1.out.lq HQ2.out
  have HT2 := Lib.hid ht2
  obtain ⟨q, hq⟩ : ∃ q, (d.length + 39) / 40 + 2 = q := ⟨_, rfl⟩
  obtain ⟨m, hm⟩ : ∃ m, cost + q = m := ⟨_, rfl⟩
  have hqm : (cost : Int) + (q : Int) = (m : Int) := by omega
  have hml : m ≤ 3 * (u + cellsN N) := by
    have h1 := HD.out.2
    have h2 := HN.out
    have h3 : (d.length + 39) / 40 ≤ cellsN N := by unfold cellsN; omega
    have h4 := cellsN_pos N
    omega
  have hmz : (m : Int) ≤ 1000000 := by have h2 := HN.out; omega
  have HM := Lib.hid hml
  have HCO := Lib.hid (fun W => cost_any d.length (by have h1 := HD.out.2; have := HN.out; omega) W)
  rw [hq] at HCO
  obtain ⟨-, -, y2, -⟩ := ht2.cells
  have hfz := ht2.free 2
  have z2 : w2.drew.cell? ⟨pt, 2, none⟩ = some (.int .i64 (cost : Nat)) := y2
  have fz2 : w2.drew.frozen? ⟨pt, 2, none⟩ = false := hfz
  clear ht2 hq hm hml
  have hmw : IntKind.i64.wrap (m : Int) = (m : Int) := wrap_small _ (by omega) (by omega)
  go_cut [] (fun wx => ∃ w5, Below w2.heap.size w2 w5 ∧ wx = w5.setCell ⟨pt, 2, none⟩ (.int .i64 (m : Nat)))
  case first =>
    go_region_law (first | (go_simp; go_at_call 30; refine (HCO.out _).mono ?_; rintro e w' ⟨rfl, rfl⟩))
    all_goals
      go_wp2_with fail
      go_meet
      exact ⟨_, by first | exact (Below.refl _ _).drew | exact (Below.refl _ _).drew.drew, rfl⟩
  case rest =>
    obtain ⟨w5, hb5, hwx⟩ := hcut
    subst hwx
    have HB5 := Lib.hid hb5
    clear hb5 y2 hfz z2 fz2 hmw
    go_wp2_with fail
    go_ret
    have ht5 := HT2.out.below HB5.out
    have hbs : Beside (fun k => k = pt) w5 (w5.setCell ⟨pt, 2, none⟩ (.int .i64 (m : Nat))) := (Beside.refl (fun k => k = pt) w5).setCell (p := ⟨pt, 2, none⟩) (.inl rfl) _
    have hn := HN.out
    have hr5 : PairR w5 B pv L := ((HP.out.1.below HB1.out).lq HQ2.out).below HB5.out
    have hd := HD.out
    refine ⟨rfl, ⟨⟨_, _, _, (HL2.out.below HB5.out).beside hbs ?_, HFA.out, hn.2.2.2.2.2.1, ?_, ?_, ?_, ?_⟩, ⟨m, pv, L, ht5.set2 m, HM.out, ⟨?_, ?_⟩, HP.out.2⟩, hn.2.2.2.2.2.2.2.2.2, by omega⟩, ?_⟩
    · rintro k rfl
      exact ⟨hn.2.2.2.2.2.2.2.2.2, _, _, _, ht5, by decide, by decide, by decide, by decide, by decide, by decide⟩
    · show s.used + cellsN d.length ≤ _; omega
    · show s.number + cellsN d.length ≤ _; omega
    · show (s.ents ++ [_]).length ≤ _
      have := cellsN_pos N
      simp; omega
    · rw [appW_length]; omega
    · exact ownsRow_beside hr5.row hbs (fun k hk e => ownsRow_ne hr5.row ht5 (by decide) k hk (by first | exact e | exact e.symm))
    · intro x hx
      obtain ⟨o1, o2, o3⟩ := hr5.own x hx
      exact ⟨ownsRow_beside o1 hbs (fun k hk e => ownsRow_ne o1 ht5 (by decide) k hk (by first | exact e | exact e.symm)), ownsRow_beside o2 hbs (fun k hk e => ownsRow_ne o2 ht5 (by decide) k hk (by first | exact e | exact e.symm)), o3⟩
    · refine (((Below.lt HB1.out).trans HQ2.out.lt).trans (Below.lt HB5.out)).trans (LT.beside hbs ?_)
      rintro k rfl cs t fr hh
      rw [show w5.heap[k]? = _ from ht5] at hh
      simp at hh
      exact .inl hh.2.1.symm
end
section
set_option linter.unusedVariables false
open Go.RowKit

def Ch.pair (x : Ch) : List Nat × List Nat := (x.key, x.val)
theorem ChR.mono {w : World} {B C : Nat} {v : Value} {L : List Ch} (h : ChR w B v L) (hc : C ≤ B) : ChR w C v L :=
  ⟨rows_mono h.row hc, fun x hx => ⟨owns_mono (h.own x hx).1 hc, owns_mono (h.own x hx).2.1 hc, (h.own x hx).2.2⟩⟩
theorem ChR.at {w : World} {B : Nat} {v : Value} {L : List Ch} (h : ChR w B v L) (i : Nat) (hi : i < L.length) :
    ∃ g cap, v = .slice (some ⟨g, 0, none⟩) L.length cap ∧ L.length ≤ cap ∧ w.cell? ⟨g, i * 3, none⟩ = some L[i].kv ∧ w.cell? ⟨g, i * 3 + 1, none⟩ = some L[i].vv ∧ w.cell? ⟨g, i * 3 + 2, none⟩ = some (.bool L[i].drop) := by
  rcases h.row.2 with ⟨e, h1⟩ | ⟨g, cap, cur, e, hb, hh, hc, hmx, hs, ht⟩
  · omega
  · obtain ⟨g1, g2, g3⟩ := chC_get L i hi
    have hat : ∀ j v, j < L.length * 3 → (chC L)[j]? = some v → w.cell? ⟨g, j, none⟩ = some v := by
      intro j v hj hv
      rw [cell_of_row _ _ _ _ 35 (0, 0) hh]
      have : cur.toList[j]? = some v := by
        rw [← ht, List.getElem?_take_of_lt hj] at hv
        exact hv
      simpa using this
    exact ⟨g, cap, e, hc, hat _ _ (by omega) g1, hat _ _ (by omega) g2, hat _ _ (by omega) g3⟩
/-- a pair more -/
theorem Tb.ins {B : Nat} {w0 w X w7 : World} {pt pl pd : Nat} {kv : Value} {ring u sec cost : Nat} {s : LgS} {S : List (List Nat)} {W : List (Nat × List Nat)} {pv : Value} {L : List Pr} (hl : Lg B w0 w pl pd kv s S W)
    (hst : Fit s S W ∧ s.ring = ring ∧ s.used ≤ u ∧ s.number ≤ u + 1 ∧ s.ents.length ≤ u ∧ W.length ≤ u) (ht : TbV w pt (.pointer (some ⟨pl, 0, none⟩)) sec cost pv) (hc : cost ≤ 3 * u) (hr : PairR w B pv L) (hB : B ≤ pt) (hu : u ≤ 65534)
    (hX : Below w.heap.size w X) (hg : X.grownBy w7 pv.ownBlock) (x : Pr) (hx : OwnB w B x.kv x.key ∧ OwnB w B x.vv x.val ∧ (∀ n ∈ x.key, n < 256) ∧ ∀ n ∈ x.val, n < 256) {a : Option Addr} {c : Nat} (ho : w7.ownsRow B 79 2 (.slice a (L.length + 1) c) (L.length + 1) (prC L ++ [x.kv, x.vv])) :
    Tb B w0 (w7.setCell ⟨pt, 3, none⟩ (.slice a (L.length + 1) c)) pt pl pd kv ring u sec (L.map Pr.of ++ [(x.key, x.val)]) ∧ LT w (w7.setCell ⟨pt, 3, none⟩ (.slice a (L.length + 1) c)) := by
  have hrX := hr.below hX
  have hb : Beside (fun k => k = pt ∨ pv.ownBlock = some k) X (w7.setCell ⟨pt, 3, none⟩ (.slice a (L.length + 1) c)) :=
    ((Beside.refl _ X).grown hg (fun k hk => .inl (.inr hk))).setCell (p := ⟨pt, 3, none⟩) (.inl (.inl rfl)) _
  have htX := ht.below hX
  have hown : ∀ k, (k = pt ∨ pv.ownBlock = some k) → B ≤ k ∧ ∃ cs t fr, X.heap[k]? = some (.cells cs t fr) ∧ (t = 68 ∨ t = 79) := by
    rintro k (rfl | hk)
    · exact ⟨hB, _, _, _, htX, .inl rfl⟩
    · obtain ⟨h1, h2⟩ := World.ownsRow.lt hrX.row k hk
      rcases hrX.row.2 with ⟨e, _⟩ | ⟨g, cap, cur, e, hg, hh, _⟩
      · rw [e] at hk; cases hk
      · rw [e] at hk
        obtain rfl : g = k := by simpa [Value.ownBlock] using hk
        exact ⟨h1, _, _, _, hh, .inr rfl⟩
  have hnb : ∀ (v : Value) (l : List Nat), OwnB X B v l → OwnB (w7.setCell ⟨pt, 3, none⟩ (.slice a (L.length + 1) c)) B v l := by
    intro v l h
    refine ownsRow_beside h hb (fun k hk hkk => ?_)
    obtain ⟨_, cs, t, fr, hh, ht⟩ := hown k hkk
    exact ownsRow_ne h hh (by rintro rfl; rcases ht with h | h <;> cases h) k hk rfl
  have ht7 : TbV w7 pt (.pointer (some ⟨pl, 0, none⟩)) sec cost pv := (hg.block pt (lt_of_block htX) (fun e => ownsRow_ne hrX.row htX (by decide) pt e.symm rfl)).trans htX
  refine ⟨⟨⟨s, S, W, (hl.below hX).beside hb (fun k hk => ?_), hst⟩, ⟨cost, _, L ++ [x], ht7.set3 _, hc, ⟨?_, ?_⟩, ?_⟩, hB, hu⟩, (Below.lt hX).trans (LT.beside hb ?_)⟩
  · obtain ⟨h1, cs, t, fr, hh, ht⟩ := hown k hk
    exact ⟨h1, cs, t, fr, hh, by rcases ht with rfl | rfl <;> decide⟩
  · have e1 : (L ++ [x]).length = L.length + 1 := by simp
    have e2 : prC (L ++ [x]) = prC L ++ [x.kv, x.vv] := by simp [prC, Pr.cells]
    rw [e1, e2]
    refine ownsRow_beside (own := fun k => k = pt) ho ((Beside.refl (fun k => k = pt) w7).setCell (p := ⟨pt, 3, none⟩) (.inl rfl) _) (fun k hk e => ?_)
    subst e
    exact ownsRow_ne ho ht7 (by decide) _ hk rfl
  · intro y hy
    rcases List.mem_append.1 hy with hy | hy
    · obtain ⟨o1, o2, o3⟩ := hrX.own y hy
      exact ⟨hnb _ _ o1, hnb _ _ o2, o3⟩
    · obtain rfl := List.mem_singleton.1 hy
      exact ⟨hnb _ _ (ownsRow_below hx.1 hX), hnb _ _ (ownsRow_below hx.2.1 hX), hx.2.2⟩
  · simp [Pr.of]
  · intro k hk cs t fr hh
    obtain ⟨_, cs2, t2, fr2, hh2, ht⟩ := hown k hk
    rw [hh] at hh2
    simp at hh2
    rw [hh2.2.1]
    exact ht

set_option maxRecDepth 100000 in
set_option maxHeartbeats 4000000 in
theorem apply_end {B : Nat} {w0 w : World} {pt pl pd : Nat} {kv : Value} {ring u sec : Nat} {P : List (List Nat × List Nat)} (h : Tb B w0 w pt pl pd kv ring u sec P) {ov : Value} {L : List Ch} (ho : ChR w B ov L) (hd : ∀ x ∈ L, x.drop = false) (hB : B ≤ w.heap.size)
    (hlen : P.length + L.length ≤ 10000) (hk : ∀ j (hj : j < L.length), ∀ x ∈ P ++ (L.take j).map Ch.pair, decide (0 ≤ cmpL x.1 L[j].key) = false) :
    Calls Try.prog 29 #[.pointer (some ⟨pt, 0, none⟩), ov] w fun e w' => e = .returned (.tuple #[]) ∧ Tb B w0 w' pt pl pd kv ring u sec (P ++ L.map Ch.pair) ∧ LT w w' := by
  obtain ⟨oa, oc, rfl⟩ := own_shape ho.row
  have HH := Lib.hid h
  have HO := Lib.hid ho
  have HK := Lib.hid (And.intro hd hk)
  have HLN := Lib.hid (And.intro hlen hB)
  have hml : L.length ≤ 9223372036854775807 := by omega
  clear h ho hd hk hlen
  go_enter Try.func29, Try.ntmps29
  go_wp2_with fail
  go_loopw [10] (fun i wr => ∃ k : Nat, k ≤ L.length ∧ i = .int .i64 (k : Nat) ∧ Tb B w0 wr pt pl pd kv ring u sec (P ++ (L.map Ch.pair).take k) ∧ LT w wr) (fun i _ => L.length - (RowKit.intOf i).toNat)
  case atStart => exact ⟨0, Nat.zero_le _, rfl, by simpa using HH.out, LT.refl _⟩
  case round =>
    obtain ⟨k, hk, rfl, htb, hlt⟩ := hrel
    have HLT := Lib.hid hlt
    by_cases hkn : k < L.length
    · have hkz : (k : Int) < (L.length : Int) := by omega
      have hor := HO.out.lt hlt
      obtain ⟨g, cap, e, hcap, c0, c1, c2⟩ := hor.at k hkn
      obtain ⟨rfl, -, rfl⟩ := Value.slice.inj e
      obtain ⟨x, hx⟩ : ∃ x, L[k] = x := ⟨_, rfl⟩
      obtain ⟨o1, o2, o3, o4⟩ := hor.own _ (List.getElem_mem hkn)
      have hxd := HK.out.1 _ (List.getElem_mem hkn)
      rw [hx] at c0 c1 c2 o1 o2 o3 o4 hxd
      rw [hxd] at c2
      have HNX : Hid (P ++ (L.map Ch.pair).take (k + 1) = (P ++ (L.map Ch.pair).take k) ++ [x.pair]) := Lib.hid (by rw [List.take_succ_eq_append_getElem (by simpa using hkn), List.append_assoc, List.getElem_map, hx])
      have HKY : Hid (∀ y ∈ P ++ (L.map Ch.pair).take k, decide (0 ≤ cmpL y.1 x.key) = false) := Lib.hid (by
        have := HK.out.2 k hkn
        rw [hx, List.map_take] at this
        exact this)
      obtain ⟨xk, xv, key, val, drop⟩ := x
      simp only at c0 c1 c2 o1 o2 o3 o4 hxd HKY
      subst hxd
      obtain ⟨ka, kc, rfl⟩ := o1.shape
      obtain ⟨va, vc, rfl⟩ := o2.shape
      have HX : Hid (OwnB wr B (.slice ka key.length kc) key ∧ OwnB wr B (.slice va val.length vc) val ∧ (∀ n ∈ key, n < 256) ∧ ∀ n ∈ val, n < 256) := Lib.hid ⟨o1, o2, o3, o4⟩
      have HKN := Lib.hid hkn
      have HTB := Lib.hid htb
      have hkc : (k : Int) < (oc : Int) := by omega
      clear htb hlt hor o1 o2 o3 o4 e hx
      obtain ⟨Q, hQ⟩ : ∃ Q, P ++ (L.map Ch.pair).take k = Q := ⟨_, rfl⟩
      have HQL : Hid (Q.length ≤ 10000) := Lib.hid (by have := HLN.out.1; rw [← hQ, List.length_append, List.length_take]; omega)
      rw [hQ] at HTB HKY HNX
      clear hQ
      go_upto_region 3 with (fail)
      have hA5 : Below wr.heap.size wr (wr.alloc (.cells #[.slice ka key.length kc, .slice va val.length vc, .bool false] 35)) := (Below.refl _ _).alloc (Nat.le_refl _) _
      have HX5 := Lib.hid (heap_alloc_new wr (.cells #[.slice ka key.length kc, .slice va val.length vc, .bool false] 35))
      have HB5 := Lib.hid hA5
      clear c0 c1 c2 hA5
      generalize wr.alloc (.cells #[.slice ka key.length kc, .slice va val.length vc, .bool false] 35) = w5 at *
      generalize hb5 : wr.heap.size = b5 at *
      have HE5 := Lib.hid hb5
      clear hb5
      obtain ⟨⟨s, S, W, hlg, hst⟩, ⟨cost, pv, L2, htv, hco, hpr, hm2⟩, hBp, hfu⟩ := HTB.out
      have hbw : Below wr.heap.size wr w5 := by rw [HE5.out]; exact HB5.out
      have HST := Lib.hid (And.intro (hlg.below hbw) (And.intro hst (And.intro hco (And.intro hBp hfu))))
      have HTV := Lib.hid (htv.below hbw)
      have HPR := Lib.hid (And.intro (hpr.below hbw) hm2)
      have HX5O : Hid (OwnB w5 B (.slice ka key.length kc) key ∧ OwnB w5 B (.slice va val.length vc) val ∧ (∀ n ∈ key, n < 256) ∧ ∀ n ∈ val, n < 256) := Lib.hid ⟨ownsRow_below HX.out.1 hbw, ownsRow_below HX.out.2.1 hbw, HX.out.2.2⟩
      have y0 := cell_of_row w5 b5 0 _ _ _ HX5.out
      simp only [List.getElem?_toArray, List.getElem?_cons_zero] at y0
      have HPL := Lib.hid (place_any (P := Q) (key := key) HTV.out (by rw [← hm2]; exact HPR.out.1.pairV) (HX5O.out.1.rowB HX.out.2.2.1) (by have := HQL.out; omega) Q.length (Nat.le_refl _) (fun i hi => by
        rw [HKY.out _ (List.getElem_mem hi)]
        exact (decide_eq_false (by omega)).symm))
      have hqn : decide (Q[Q.length]?.map (·.1) = some key) = false := by
        rw [List.getElem?_eq_none (Nat.le_refl _)]
        rfl
      rw [hqn] at HPL
      have HL2 : Hid (L2.length = Q.length) := Lib.hid (by rw [← hm2]; simp)
      clear hlg hst htv hco hpr hm2 hBp hfu hbw hqn
      go_upto_region 4 with (first | (go_at_call 36; refine HPL.out.mono ?_; rintro e w6 ⟨rfl, hb6⟩
                                      have hx6 := (hb6.block b5 (lt_of_block HX5.out)).trans HX5.out
                                      have HX6 := Lib.hid hx6
                                      have HB6 := Lib.hid hb6
                                      have z2 := cell_of_row w6 b5 2 _ _ _ hx6
                                      simp only [List.getElem?_toArray, List.getElem?_cons_zero, List.getElem?_cons_succ] at z2
                                      clear hb6 hx6))
      obtain ⟨pa, pc, hpv⟩ := own_shape HPR.out.1.row
      subst hpv
      rw [HL2.out] at HTV HPR
      have hbw6 : Below w6.heap.size w6 w6.drew := (Below.refl _ _).drew
      have t6 := (HTV.out.below HB6.out)
      have x0 : w6.drew.cell? ⟨b5, 0, none⟩ = some (.slice ka key.length kc) := cell_of_row w6 b5 0 _ _ _ HX6.out
      have x1 : w6.drew.cell? ⟨b5, 1, none⟩ = some (.slice va val.length vc) := cell_of_row w6 b5 1 _ _ _ HX6.out
      have x3 : w6.drew.cell? ⟨pt, 3, none⟩ = some (.slice pa Q.length pc) := t6.cells.2.2.2
      have HZ := Lib.hid (heap_alloc_new w6 (.cells #[.slice ka key.length kc, .slice va val.length vc] 79))
      have HBZ : Hid (Below w6.heap.size w6 (w6.alloc (.cells #[.slice ka key.length kc, .slice va val.length vc] 79))) := Lib.hid ((Below.refl _ _).alloc (Nat.le_refl _) _)
      have HRZ := Lib.hid (((HPR.out.1.below HB6.out).below HBZ.out).row)
      rw [HL2.out] at HRZ
      have HT6 := Lib.hid t6
      have HIN := Lib.hid (ins_end (w := (w6.alloc (.cells #[.slice ka key.length kc, .slice va val.length vc] 79)).drew) (B := B) (pv := .slice pa Q.length pc) (L := L2) (by rw [HL2.out]; exact HRZ.out) (Nat.le_trans (Nat.le_trans (Nat.le_trans (Nat.le_trans HLN.out.2 HLT.out.size) HB5.out.size) HB6.out.size) HBZ.out.size) (by rw [HL2.out]; have := HQL.out; omega) (g := w6.heap.size) (kv := .slice ka key.length kc) (vv := .slice va val.length vc) HZ.out rfl rfl)
      rw [HL2.out] at HIN
      have HTZ := Lib.hid (HT6.out.below HBZ.out)
      have HFN : Hid (∀ a c w7, w7.ownsRow B 79 2 (.slice a (Q.length + 1) c) (Q.length + 1) (prC L2 ++ [.slice ka key.length kc, .slice va val.length vc]) → (w6.alloc (.cells #[.slice ka key.length kc, .slice va val.length vc] 79)).drew.grownBy w7 (Value.slice pa Q.length pc).ownBlock →
          Tb B w0 (w7.setCell ⟨pt, 3, none⟩ (.slice a (Q.length + 1) c)) pt pl pd kv ring u sec (Q ++ [(key, val)]) ∧ LT w (w7.setCell ⟨pt, 3, none⟩ (.slice a (Q.length + 1) c))) := Lib.hid fun a c w7 h1 h2 => by
        have hbw : Below wr.heap.size wr w6 := by rw [HE5.out]; exact HB5.out.trans (HB6.out.mono (by rw [← HE5.out]; exact HB5.out.size))
        have h6 : OwnB w6 B (.slice ka key.length kc) key ∧ OwnB w6 B (.slice va val.length vc) val ∧ (∀ n ∈ key, n < 256) ∧ ∀ n ∈ val, n < 256 := ⟨ownsRow_below HX.out.1 hbw, ownsRow_below HX.out.2.1 hbw, HX.out.2.2⟩
        have hst := HST.out
        have := Tb.ins (pv := .slice pa Q.length pc) (L := L2) (c := c) (a := a) (hst.1.below HB6.out) hst.2.1 HT6.out hst.2.2.1 (HPR.out.1.below HB6.out) hst.2.2.2.1 hst.2.2.2.2 HBZ.out.drew h2 ⟨_, _, key, val⟩ h6 (by rw [HL2.out]; exact h1)
        rw [HL2.out, HPR.out.2] at this
        exact ⟨this.1, (HLT.out.trans (Below.lt hbw)).trans this.2⟩
      have xz3 : (w6.alloc (.cells #[.slice ka key.length kc, .slice va val.length vc] 79)).drew.cell? ⟨pt, 3, none⟩ = some (.slice pa Q.length pc) := HTZ.out.cells.2.2.2
      clear hbw6 t6 z2
      go_region_law (first
        | (go_simp; go_at_call 59; refine HIN.out.mono ?_; rintro e w7 ⟨a7, c7, rfl, ho7, hg7⟩
           have ht7 : TbV w7 pt (.pointer (some ⟨pl, 0, none⟩)) sec cost (.slice pa Q.length pc) := (hg7.block pt (lt_of_block HTZ.out) (fun e => ownsRow_ne HRZ.out HTZ.out (by decide) pt e.symm rfl)).trans HTZ.out
           have u3 := ht7.cells.2.2.2
           have fu3 := ht7.free 3
           have HO7 := Lib.hid ho7
           have HG7 := Lib.hid hg7
           clear ho7 hg7 ht7))
      all_goals
        go_wp2_with fail
        go_roundw
        case rel => exact ⟨k + 1, HKN.out, by go_num, by rw [HNX.out]; exact (HFN.out _ _ _ HO7.out HG7.out).1, (HFN.out _ _ _ HO7.out HG7.out).2⟩
        case measure => simp [intOf]; omega
    · obtain rfl : k = L.length := by omega
      have HT := Lib.hid htb
      clear htb hlt
      go_wp2_with fail
      refine bodyPost_end (v := .tuple #[]) (by simp [results, Try.results29, go_sem]) rfl ⟨rfl, ?_, HLT.out⟩
      have := HT.out
      rwa [List.take_of_length_le (by simp)] at this
end
end Go.Proofs.Ytmnbkhgogogeiaa
