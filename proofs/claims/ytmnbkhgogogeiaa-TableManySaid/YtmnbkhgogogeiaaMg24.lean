/-
  Several texts of one proof, each in a section of its own: Tab, MapP, Clr.
-/
import Derived.Test.YtmnbkhgogogeiaaRcdMg
import Derived.Test.YtmnbkhgogogeiaaInsMg
import Derived.Lib.SliceRun
namespace Go.Proofs.Ytmnbkhgogogeiaa
section
set_option linter.unusedVariables false
open Go.RowKit

/-- all blocks but a disk's, a log's and a table's lie as they lay -/
structure LT (w w' : World) : Prop where
  size : w.heap.size ≤ w'.heap.size
  keep : ∀ (k : Nat) cs t fr, w.heap[k]? = some (.cells cs t fr) → t ≠ 62 → t ≠ 143 → t ≠ 145 → t ≠ 91 → t ≠ 98 → t ≠ 68 → t ≠ 79 → w'.heap[k]? = some (.cells cs t fr)
theorem LT.refl (w : World) : LT w w := ⟨Nat.le_refl _, fun _ _ _ _ h _ _ _ _ _ _ _ => h⟩
theorem LT.trans {a b c : World} (h : LT a b) (k : LT b c) : LT a c := ⟨Nat.le_trans h.size k.size, fun i cs t fr hh h1 h2 h3 h4 h5 h6 h7 => k.keep i cs t fr (h.keep i cs t fr hh h1 h2 h3 h4 h5 h6 h7) h1 h2 h3 h4 h5 h6 h7⟩
theorem LQ.lt {a b : World} (h : LQ a b) : LT a b := ⟨h.size, fun i cs t fr hh h1 h2 h3 h4 h5 _ _ => h.keep i cs t fr hh h1 h2 h3 h4 h5⟩
theorem Below.lt {w w' : World} (h : Below w.heap.size w w') : LT w w' := (Below.lq h).lt
theorem LT.beside {a b : World} {own : Nat → Prop} (hb : Beside own a b) (h : ∀ k, own k → ∀ cs t fr, a.heap[k]? = some (.cells cs t fr) → t = 68 ∨ t = 79) : LT a b :=
  ⟨hb.size, fun k cs t fr hh h1 h2 h3 h4 h5 h6 h7 => by
    rw [hb.block k (lt_of_block hh) (fun hc => by rcases h k hc _ _ _ hh with h | h; exact h6 h; exact h7 h)]
    exact hh⟩
theorem ownsRow_lt {w w' : World} {B : Nat} {t : TypeId} {sz : Nat} {v : Value} {n : Nat} {xs : List Value} (h : w.ownsRow B t sz v n xs) (hq : LT w w') (h1 : t ≠ 62) (h2 : t ≠ 143) (h3 : t ≠ 145) (h4 : t ≠ 91) (h5 : t ≠ 98) (h7 : t ≠ 68) (h8 : t ≠ 79) : w'.ownsRow B t sz v n xs := by
  refine ⟨h.1, ?_⟩
  rcases h.2 with h6 | ⟨g, cap, cur, rfl, hg, hh, r⟩
  · exact .inl h6
  · exact .inr ⟨g, cap, cur, rfl, hg, hq.keep g _ _ _ hh h1 h2 h3 h4 h5 h7 h8, r⟩
theorem OwnB.lt {w w' : World} {B : Nat} {v : Value} {l : List Nat} (h : OwnB w B v l) (hq : LT w w') : OwnB w' B v l := ownsRow_lt h hq (by decide) (by decide) (by decide) (by decide) (by decide) (by decide) (by decide)
theorem ChR.lt {w w' : World} {B : Nat} {v : Value} {L : List Ch} (h : ChR w B v L) (hq : LT w w') : ChR w' B v L :=
  ⟨ownsRow_lt h.row hq (by decide) (by decide) (by decide) (by decide) (by decide) (by decide) (by decide), fun x hx => ⟨(h.own x hx).1.lt hq, (h.own x hx).2.1.lt hq, (h.own x hx).2.2⟩⟩

/-- a table, its log and its disk between two calls: u bounds the cells that were used -/
structure Tb (B : Nat) (w0 w : World) (pt pl pd : Nat) (kv : Value) (ring u sec : Nat) (P : List (List Nat × List Nat)) : Prop where
  st : ∃ s S W, Lg B w0 w pl pd kv s S W ∧ Fit s S W ∧ s.ring = ring ∧ s.used ≤ u ∧ s.number ≤ u + 1 ∧ s.ents.length ≤ u ∧ W.length ≤ u
  tb : ∃ cost pv L, TbV w pt (.pointer (some ⟨pl, 0, none⟩)) sec cost pv ∧ cost ≤ 3 * u ∧ PairR w B pv L ∧ L.map Pr.of = P
  base : B ≤ pt
  few : u ≤ 65534
theorem PairR.below {w w' : World} {B : Nat} {pv : Value} {L : List Pr} (h : PairR w B pv L) (hb : Below w.heap.size w w') : PairR w' B pv L := h.lq (Below.lq hb)
theorem Tb.below {B : Nat} {w0 w w' : World} {pt pl pd : Nat} {kv : Value} {ring u sec : Nat} {P : List (List Nat × List Nat)} (h : Tb B w0 w pt pl pd kv ring u sec P) (hb : Below w.heap.size w w') : Tb B w0 w' pt pl pd kv ring u sec P := by
  obtain ⟨⟨s, S, W, hl, hf⟩, ⟨cost, pv, L, ht, hc, hr, hm⟩, hB, hu⟩ := h
  exact ⟨⟨s, S, W, hl.below hb, hf⟩, ⟨cost, pv, L, ht.below hb, hc, hr.below hb, hm⟩, hB, hu⟩
theorem TbV.lq {w w' : World} {pt : Nat} {lv : Value} {sec cost : Nat} {pv : Value} (h : TbV w pt lv sec cost pv) (hq : LQ w w') : TbV w' pt lv sec cost pv :=
  hq.keep pt _ _ _ h (by decide) (by decide) (by decide) (by decide) (by decide)
theorem cellsN_mono {a b : Nat} (h : a ≤ b) : cellsN a ≤ cellsN b := by unfold cellsN; omega
theorem TbV.set2 {w : World} {pt : Nat} {lv : Value} {sec cost : Nat} {pv : Value} (h : TbV w pt lv sec cost pv) (n : Nat) : TbV (w.setCell ⟨pt, 2, none⟩ (.int .i64 (n : Nat))) pt lv sec n pv := heap_setCell_same w pt 2 _ 68 _ h
theorem TbV.set3 {w : World} {pt : Nat} {lv : Value} {sec cost : Nat} {pv : Value} (h : TbV w pt lv sec cost pv) (v : Value) : TbV (w.setCell ⟨pt, 3, none⟩ v) pt lv sec cost v := heap_setCell_same w pt 3 _ 68 _ h
theorem Lg.beside {B : Nat} {w0 w w' : World} {pl pd : Nat} {kv : Value} {s : LgS} {S : List (List Nat)} {W : List (Nat × List Nat)} {own : Nat → Prop} (h : Lg B w0 w pl pd kv s S W) (hb : Beside own w w')
    (ho : ∀ k, own k → B ≤ k ∧ ∃ cs t fr, w.heap[k]? = some (.cells cs t fr) ∧ t ≠ 62 ∧ t ≠ 143 ∧ t ≠ 145 ∧ t ≠ 91 ∧ t ≠ 98 ∧ t ≠ 5) : Lg B w0 w' pl pd kv s S W := by
  obtain ⟨ev, L, hl, he, hL⟩ := h.log
  refine ⟨h.disk.beside2 hb (fun k hk => ?_) (fun k hk => (ho k hk).1), ⟨ev, L, hl.beside hb (fun hk => ?_), he.beside hb (fun k hk cs t fr hh => ?_), hL⟩, h.base⟩
  · obtain ⟨_, cs, t, fr, hh, h1, h2, h3, _⟩ := ho k hk
    exact ⟨cs, t, fr, hh, h1, h2, h3⟩
  · obtain ⟨_, cs, t, fr, hh, h1, h2, h3, h4, _⟩ := ho _ hk
    unfold LgV at hl
    rw [hl] at hh
    simp at hh
    exact h4 hh.2.1.symm
  · obtain ⟨_, cs2, t2, fr2, hh2, h1, h2, h3, h4, h5, h6⟩ := ho k hk
    rw [hh] at hh2
    simp at hh2
    obtain ⟨rfl, rfl, rfl⟩ := hh2
    exact ⟨h5, h6⟩

set_option maxRecDepth 100000 in
set_option maxHeartbeats 4000000 in
theorem twrite_any {B : Nat} {w0 w : World} {pt pl pd : Nat} {kv : Value} {ring u sec : Nat} {P : List (List Nat × List Nat)} (h : Tb B w0 w pt pl pd kv ring u sec P) {v : Value} {C : List Chg} (hv : ChgV w v C) (hC : C.length ≤ 60) (hw : weigh C ≤ 61440) (N : Nat) (hN : 16 + 27 * C.length + weigh C = N) (hroom : u + cellsN N ≤ ring) (hring : ring ≤ 65534) :
    Calls Try.prog 34 #[.pointer (some ⟨pt, 0, none⟩), v] w fun e w' => e = .returned (.int .i64 0) ∧ Tb B w0 w' pt pl pd kv ring (u + cellsN N) sec P ∧ LT w w' := by
  obtain ⟨sa, sl, sc, rfl⟩ : ∃ sa sl sc, v = .slice sa sl sc := by obtain ⟨a, c, e, _⟩ := hv; exact ⟨_, _, _, e⟩
  have HR := Lib.hid (record_any hv (by omega) hw)
  rw [hN] at HR
  obtain ⟨⟨s, S, W, hl, hf, hrg, hus, hnu, hen, hwl⟩, ⟨cost, pv, L, ht, hc, hr, hm⟩, hB, hu⟩ := h
  have HL := Lib.hid hl
  have HF := Lib.hid hf
  have HT := Lib.hid ht
  have HP := Lib.hid (And.intro hr hm)
  have HN : Hid (N ≤ 65536 ∧ s.used ≤ u ∧ s.number ≤ u + 1 ∧ s.ents.length ≤ u ∧ W.length ≤ u ∧ s.ring = ring ∧ cost ≤ 3 * u ∧ u + cellsN N ≤ ring ∧ ring ≤ 65534 ∧ B ≤ pt) := Lib.hid ⟨by omega, hus, hnu, hen, hwl, hrg, hc, hroom, hring, hB⟩
  clear hl hf ht hr hm hv hus hnu hen hwl hrg hc hroom hring hB hC hw hN hu
  go_enter Try.func34, Try.ntmps34
  go_wp2_with fail
  refine HR.out.mono ?_
  rintro e w1 ⟨o, d, rfl, ho, hdl, hdt, hb1⟩
  obtain ⟨oa, oc, rfl⟩ := ho.shape
  have ht1 := HT.out.below hb1
  have HT1 := Lib.hid ht1
  obtain ⟨t0, -, -, -⟩ := ht1.cells
  have hcd : cellsN d.length ≤ cellsN N := cellsN_mono hdl
  have HAP := Lib.hid (append_any (HL.out.below hb1) HF.out (ho.rowK (B := B) hdt) (by have := HN.out.1; omega) (by have := HN.out; omega))
  have HFA := Lib.hid (HF.out.app (data := d) (by have := HN.out.1; omega) (by have := HN.out; omega) (by have := HN.out; omega) (by have := HN.out; omega) (by have := HN.out; omega))
  have HD := Lib.hid (And.intro hcd hdl)
  have HB1 := Lib.hid hb1
  clear ho hdl hdt hb1 ht1 hcd
  go_upto_region 4 with (first | (go_at_call 63; refine HAP.out.mono ?_; rintro e w2 ⟨rfl, hl2, hq2⟩; have HL2 := Lib.hid hl2; have HQ2 := Lib.hid hq2; clear hl2 hq2))
  have ht2 := HT1.out.lq HQ2.out
  have HT2 := Lib.hid ht2
  obtain ⟨q, hq⟩ : ∃ q, (d.length + 39) / 40 + 2 = q := ⟨_, rfl⟩
  obtain ⟨m, hm⟩ : ∃ m, cost + q = m := ⟨_, rfl⟩
  have hqm : (cost : Int) + (q : Int) = (m : Int) := by omega
  have hml : m ≤ 3 * (u + cellsN N) := by
    have h1 := HD.out.2
    have h2 := HN.out
    have h3 : (d.length + 39) / 40 ≤ cellsN N := by unfold cellsN; omega
    have h4 := cellsN_pos N
    omega
  have hmz : (m : Int) ≤ 1000000 := by have h2 := HN.out; omega
  have HM := Lib.hid hml
  have HCO := Lib.hid (fun W => cost_any d.length (by have h1 := HD.out.2; have := HN.out; omega) W)
  rw [hq] at HCO
  obtain ⟨-, -, y2, -⟩ := ht2.cells
  have hfz := ht2.free 2
  have z2 : w2.drew.cell? ⟨pt, 2, none⟩ = some (.int .i64 (cost : Nat)) := y2
  have fz2 : w2.drew.frozen? ⟨pt, 2, none⟩ = false := hfz
  clear ht2 hq hm hml
  have hmw : IntKind.i64.wrap (m : Int) = (m : Int) := wrap_small _ (by omega) (by omega)
  go_cut [] (fun wx => ∃ w5, Below w2.heap.size w2 w5 ∧ wx = w5.setCell ⟨pt, 2, none⟩ (.int .i64 (m : Nat)))
  case first =>
    go_region_law (first | (go_simp; go_at_call 30; refine (HCO.out _).mono ?_; rintro e w' ⟨rfl, rfl⟩))
    all_goals
      go_wp2_with fail
      go_meet
      exact ⟨_, by first | exact (Below.refl _ _).drew | exact (Below.refl _ _).drew.drew, rfl⟩
  case rest =>
    obtain ⟨w5, hb5, hwx⟩ := hcut
    subst hwx
    have HB5 := Lib.hid hb5
    clear hb5 y2 hfz z2 fz2 hmw
    go_wp2_with fail
    go_ret
    have ht5 := HT2.out.below HB5.out
    have hbs : Beside (fun k => k = pt) w5 (w5.setCell ⟨pt, 2, none⟩ (.int .i64 (m : Nat))) := (Beside.refl (fun k => k = pt) w5).setCell (p := ⟨pt, 2, none⟩) (.inl rfl) _
    have hn := HN.out
    have hr5 : PairR w5 B pv L := ((HP.out.1.below HB1.out).lq HQ2.out).below HB5.out
    have hd := HD.out
    refine ⟨rfl, ⟨⟨_, _, _, (HL2.out.below HB5.out).beside hbs ?_, HFA.out, hn.2.2.2.2.2.1, ?_, ?_, ?_, ?_⟩, ⟨m, pv, L, ht5.set2 m, HM.out, ⟨?_, ?_⟩, HP.out.2⟩, hn.2.2.2.2.2.2.2.2.2, by omega⟩, ?_⟩
    · rintro k rfl
      exact ⟨hn.2.2.2.2.2.2.2.2.2, _, _, _, ht5, by decide, by decide, by decide, by decide, by decide, by decide⟩
    · show s.used + cellsN d.length ≤ _; omega
    · show s.number + cellsN d.length ≤ _; omega
    · show (s.ents ++ [_]).length ≤ _
      have := cellsN_pos N
      simp; omega
    · rw [appW_length]; omega
    · exact ownsRow_beside hr5.row hbs (fun k hk e => ownsRow_ne hr5.row ht5 (by decide) k hk (by first | exact e | exact e.symm))
    · intro x hx
      obtain ⟨o1, o2, o3⟩ := hr5.own x hx
      exact ⟨ownsRow_beside o1 hbs (fun k hk e => ownsRow_ne o1 ht5 (by decide) k hk (by first | exact e | exact e.symm)), ownsRow_beside o2 hbs (fun k hk e => ownsRow_ne o2 ht5 (by decide) k hk (by first | exact e | exact e.symm)), o3⟩
    · refine (((Below.lt HB1.out).trans HQ2.out.lt).trans (Below.lt HB5.out)).trans (LT.beside hbs ?_)
      rintro k rfl cs t fr hh
      rw [show w5.heap[k]? = _ from ht5] at hh
      simp at hh
      exact .inl hh.2.1.symm
end
section
set_option linter.unusedVariables false

theorem cmpL_lt_irrefl (a : List Nat) : ¬ cmpL a a < 0 := by rw [cmpL_same]; omega
theorem cmpL_flip : ∀ a b : List Nat, cmpL b a = - cmpL a b
  | [], [] => rfl
  | [], _ :: _ => rfl
  | _ :: _, [] => rfl
  | a :: u, b :: v => by
    rw [cmpL, cmpL]
    have := cmpL_flip u v
    split <;> split <;> first | omega | (split <;> omega) | rfl | skip
theorem cmpL_eq0 : ∀ a b : List Nat, cmpL a b = 0 → a = b
  | [], [], _ => rfl
  | [], _ :: _, h => by simp [cmpL] at h
  | _ :: _, [], h => by simp [cmpL] at h
  | a :: u, b :: v, h => by
    rw [cmpL] at h
    split at h
    · omega
    · split at h
      · omega
      · have h1 : a = b := by omega
        rw [h1, cmpL_eq0 u v h]
theorem cmpL_trans : ∀ a b c : List Nat, cmpL a b < 0 → cmpL b c < 0 → cmpL a c < 0
  | [], b, [], h, k => by
    cases b with
    | nil => simp [cmpL] at h
    | cons b v => simp [cmpL] at k
  | [], b, c :: x, h, k => by simp [cmpL]
  | a :: u, [], c, h, k => by simp [cmpL] at h
  | a :: u, b :: v, [], h, k => by simp [cmpL] at k
  | a :: u, b :: v, c :: x, h, k => by
    rw [cmpL] at h k ⊢
    by_cases h1 : a < b
    · by_cases k1 : b < c
      · rw [if_pos (by omega)]; omega
      · rw [if_neg k1] at k
        by_cases k2 : c < b
        · rw [if_pos k2] at k; omega
        · rw [if_pos (by omega)]; omega
    · rw [if_neg h1] at h
      by_cases h2 : b < a
      · rw [if_pos h2] at h; omega
      · rw [if_neg h2] at h
        by_cases k1 : b < c
        · rw [if_pos (by omega)]; omega
        · rw [if_neg k1] at k
          by_cases k2 : c < b
          · rw [if_pos k2] at k; omega
          · rw [if_neg k2] at k
            rw [if_neg (by omega), if_neg (by omega)]
            exact cmpL_trans u v x h k

abbrev KV := List Nat × List Nat
/-- how many stand ahead of a key -/
def scanL : List KV → List Nat → Nat
  | [], _ => 0
  | x :: r, key => if cmpL x.1 key < 0 then scanL r key + 1 else 0
theorem scanL_le (P : List KV) (key : List Nat) : scanL P key ≤ P.length := by
  induction P with
  | nil => exact Nat.le_refl _
  | cons x r ih => unfold scanL; split <;> simp <;> omega
theorem scanL_before (P : List KV) (key : List Nat) : ∀ i (h : i < P.length), i < scanL P key → cmpL P[i].1 key < 0 := by
  induction P with
  | nil => intro i h; simp at h
  | cons x r ih =>
    intro i h hi
    unfold scanL at hi
    split at hi
    · cases i with
      | zero => assumption
      | succ i => exact ih i (by simpa using h) (by omega)
    · omega
theorem scanL_at (P : List KV) (key : List Nat) (h : scanL P key < P.length) : ¬ cmpL P[scanL P key].1 key < 0 := by
  induction P with
  | nil => simp at h
  | cons x r ih =>
    by_cases hx : cmpL x.1 key < 0
    · have e : scanL (x :: r) key = scanL r key + 1 := by rw [scanL, if_pos hx]
      have h2 : scanL r key < r.length := by rw [e] at h; simpa using h
      have := ih h2
      simp only [e, List.getElem_cons_succ]
      exact this
    · have e : scanL (x :: r) key = 0 := by rw [scanL, if_neg hx]
      simp only [e, List.getElem_cons_zero]
      exact hx
theorem scanL_step (P : List KV) (key : List Nat) (i : Nat) (h : i < P.length) (hi : i ≤ scanL P key) : (i < scanL P key) = (cmpL P[i].1 key < 0) := by
  apply propext
  constructor
  · exact scanL_before P key i h
  · intro hc
    by_cases he : i = scanL P key
    · subst he; exact absurd hc (scanL_at P key h)
    · omega
/-- each key is less than those behind it -/
def SortP (P : List KV) : Prop := P.Pairwise fun x y => cmpL x.1 y.1 < 0
theorem SortP.scan {P : List KV} (hs : SortP P) (key : List Nat) : ∀ i (h : i < P.length), decide (0 ≤ cmpL P[i].1 key) = decide (scanL P key ≤ i) := by
  intro i h
  by_cases hi : scanL P key ≤ i
  · rw [decide_eq_true hi, decide_eq_true]
    have h0 := scanL_at P key (by omega)
    by_cases he : scanL P key = i
    · subst he; omega
    · have h1 : cmpL P[scanL P key].1 P[i].1 < 0 := List.pairwise_iff_getElem.1 hs _ _ _ _ (by omega)
      rcases Nat.lt_or_ge 0 0 with h2 | _
      · omega
      · apply Classical.byContradiction
        intro hc
        exact h0 (cmpL_trans _ _ _ h1 (by omega))
  · have := scanL_before P key i h (by omega)
    rw [decide_eq_false hi, decide_eq_false (by omega)]
/-- what a change makes of it -/
def putP (P : List KV) (c : Chg) : List KV :=
  if P[scanL P c.key]?.map (·.1) = some c.key then
    if c.drop then P.take (scanL P c.key) ++ P.drop (scanL P c.key + 1) else P.set (scanL P c.key) (c.key, c.val)
  else if c.drop then P else P.take (scanL P c.key) ++ (c.key, c.val) :: P.drop (scanL P c.key)
def doneP (P : List KV) (l : List Chg) : List KV := l.foldl putP P
theorem putP_own (P : List KV) (c : Chg) : putP P c.own = putP P c := by
  obtain ⟨k, v, d⟩ := c
  cases d <;> rfl
theorem doneP_own (P : List KV) (l : List Chg) : doneP P (l.map Chg.own) = doneP P l := by
  unfold doneP
  rw [List.foldl_map]
  congr 1
  funext P c
  exact putP_own P c
theorem putP_length (P : List KV) (c : Chg) : (putP P c).length ≤ P.length + 1 := by
  unfold putP
  have := scanL_le P c.key
  split
  · split
    · simp; omega
    · simp
  · split
    · omega
    · simp; omega
theorem doneP_length (l : List Chg) (P : List KV) : (doneP P l).length ≤ P.length + l.length := by
  induction l generalizing P with
  | nil => exact Nat.le_refl _
  | cons c l ih =>
    have h1 := ih (putP P c)
    have h2 := putP_length P c
    have : doneP P (c :: l) = doneP (putP P c) l := rfl
    rw [this]
    simp
    omega
theorem putP_sort {P : List KV} (hs : SortP P) (c : Chg) : SortP (putP P c) := by
  unfold putP
  have hle := scanL_le P c.key
  have hb := scanL_before P c.key
  split
  · rename_i he
    split
    · unfold SortP at *
      have h1 : (P.take (scanL P c.key) ++ P.drop (scanL P c.key + 1)).Sublist P := by
        conv => rhs; rw [← List.take_append_drop (scanL P c.key) P]
        refine List.Sublist.append (List.Sublist.refl _) ?_
        rw [← List.drop_drop]
        exact List.drop_sublist _ _
      exact hs.sublist h1
    · have hk : scanL P c.key < P.length := by
        apply Classical.byContradiction
        intro hn
        rw [List.getElem?_eq_none (by omega)] at he
        simp at he
      rw [List.getElem?_eq_getElem hk] at he
      simp at he
      unfold SortP at *
      rw [List.pairwise_iff_getElem] at *
      intro i j hi hj hij
      rw [List.getElem_set, List.getElem_set]
      have := hs i j (by simpa using hi) (by simpa using hj) hij
      split
      · rename_i e
        subst e
        rw [if_neg (by omega)]
        show cmpL c.key _ < 0
        rw [he] at this; exact this
      · split
        · rename_i e
          subst e
          show cmpL _ c.key < 0
          rw [he] at this; exact this
        · exact this
  · rename_i he
    split
    · exact hs
    · have ht := hs.scan c.key
      unfold SortP at *
      have hst := hs
      rw [List.pairwise_append, List.pairwise_cons]
      refine ⟨hs.sublist (List.take_sublist _ _), ⟨?_, hs.sublist (List.drop_sublist _ _)⟩, ?_⟩
      · intro y hy
        obtain ⟨i, hi, rfl⟩ := List.getElem_of_mem hy
        rw [List.getElem_drop]
        rw [List.length_drop] at hi
        have h1 := ht (scanL P c.key + i) (by omega)
        rw [decide_eq_true (by omega : scanL P c.key ≤ scanL P c.key + i)] at h1
        have h2 := of_decide_eq_true h1
        show cmpL c.key _ < 0
        rw [cmpL_flip]
        by_cases h3 : cmpL P[scanL P c.key + i].1 c.key = 0
        · exfalso
          have h4 := cmpL_eq0 _ _ h3
          by_cases h5 : i = 0
          · subst h5
            rw [List.getElem?_eq_getElem (by omega)] at he
            exact he (by simpa using h4)
          · have h6 : cmpL P[scanL P c.key].1 P[scanL P c.key + i].1 < 0 := List.pairwise_iff_getElem.1 hst _ _ _ _ (by omega)
            rw [h4] at h6
            exact scanL_at P c.key (by omega) h6
        · omega
      · intro x hx y hy
        obtain ⟨i, hi, rfl⟩ := List.getElem_of_mem hx
        rw [List.length_take] at hi
        rw [List.getElem_take]
        have h1 := hb i (by omega) (by omega)
        rcases List.mem_cons.1 hy with rfl | hy
        · exact h1
        · obtain ⟨j, hj, rfl⟩ := List.getElem_of_mem hy
          rw [List.getElem_drop]
          rw [List.length_drop] at hj
          exact List.pairwise_iff_getElem.1 hst _ _ _ _ (by omega)
theorem doneP_sort (l : List Chg) {P : List KV} (hs : SortP P) : SortP (doneP P l) := by
  induction l generalizing P with
  | nil => exact hs
  | cons c l ih => exact ih (putP_sort hs c)
end
section
set_option linter.unusedVariables false
open Go.RowKit

set_option maxRecDepth 100000 in
theorem zero_pair (w : World) : (zeroValue 79).run Try.prog w = .ok (.agg #[.slice none 0 0, .slice none 0 0]) w := by
  first
    | rfl
    | kernel_rfl

theorem run_clear_pair (w : World) (ty : TypeId) (b o c : Nat) (hc : ∀ j, j < 2 → (w.cell? ⟨b, o + j, none⟩).isSome = true) (hf : ∀ j, j < 2 → w.frozen? ⟨b, o + j, none⟩ = false) :
    (Builtin.clear_ #[66] ty #[.slice (some ⟨b, o, none⟩) 1 c]).run Try.prog w = .ok (.tuple #[]) (w.setCells b o [.slice none 0 0, .slice none 0 0]) := by
  have hzc : (Builtin.zeroCells (Value.agg #[.slice none 0 0, .slice none 0 0]).cells 1).toList = [.slice none 0 0, .slice none 0 0] := by
    simp [Builtin.zeroCells, Value.cells, List.range_succ]
  have hst := run_storeCells_cells (P := Try.prog) b o [.slice none 0 0, .slice none 0 0] 0 w (by simpa using hc) (by simpa using hf) (by intro v hv'; simp at hv'; subst hv'; rfl)
  simp only [Nat.add_zero] at hst
  simp [Builtin.clear_, run_underlying Try.underlying66, hzc, hst]
end
end Go.Proofs.Ytmnbkhgogogeiaa
