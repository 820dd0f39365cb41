/-
  Several texts of one proof, each in a section of its own: Do, MapP, Upd, Clr.
-/
import Derived.Test.YtmnbkhgogogeiaaRg18
import Derived.Test.YtmnbkhgogogeiaaRg15
import Derived.Lib.SliceRun
namespace Go.Proofs.Ytmnbkhgogogeiaa
section
set_option linter.unusedVariables false
open Go.RowKit

theorem weigh_at (C : List Chg) (k : Nat) (h : k < C.length) : weigh (C.take k) + (C[k].key.length + C[k].val.length) ≤ weigh C := by
  have h1 : C = C.take k ++ (C[k] :: C.drop (k + 1)) := by rw [← List.drop_eq_getElem_cons h, List.take_append_drop]
  have h2 : weigh C = weigh (C.take k) + weigh (C[k] :: C.drop (k + 1)) := by rw [← weigh_append, ← h1]
  have h3 : weigh (C[k] :: C.drop (k + 1)) = C[k].key.length + C[k].val.length + weigh (C.drop (k + 1)) := by
    unfold weigh
    rw [List.map_cons, List.sum_cons]
  omega
theorem TbV.none {w : World} {pt pl : Nat} {sec cost : Nat} {pv : Value} (h : TbV w pt (.pointer (some ⟨pl, 0, none⟩)) sec cost pv) : Calls Try.prog 31 #[.pointer (some ⟨pt, 0, none⟩)] w fun e w' => e = .returned (.bool false) ∧ w = w' := by
  obtain ⟨t0, -, -, -⟩ := h.cells
  clear h
  go_enter Try.func31, Try.ntmps31
  go_wp2_with fail
  go_ret
  exact ⟨rfl, rfl⟩
theorem sync_t {B : Nat} {w0 w : World} {pt pl pd : Nat} {kv : Value} {ring u sec : Nat} {P : List (List Nat × List Nat)} (h : Tb B w0 w pt pl pd kv ring u sec P) :
    Calls Try.prog 32 #[.pointer (some ⟨pl, 0, none⟩)] w fun e w' => e = .returned (.int .i64 0) ∧ Tb B w0 w' pt pl pd kv ring u sec P ∧ LT w w' := by
  obtain ⟨⟨s, S, W, hl, hf, hst⟩, ⟨cost, pv, L, ht, hc, hr, hm⟩, hB, hu⟩ := h
  refine (sync_any hl).mono ?_
  rintro e w' ⟨rfl, hl2, hq⟩
  have hlq : LQ w w' := hq.lq (Nat.le_refl _)
  exact ⟨rfl, ⟨⟨s, _, [], hl2, hf.flush, hst.1, hst.2.1, hst.2.2.1, hst.2.2.2.1, Nat.zero_le _⟩, ⟨cost, pv, L, ht.lq hlq, hc, hr.lq hlq, hm⟩, hB, hu⟩, hlq.lt⟩

set_option maxRecDepth 100000 in
set_option maxHeartbeats 4000000 in
theorem do_end {B : Nat} {w0 w : World} {pt pl pd : Nat} {kv : Value} {ring u sec : Nat} {P : List (List Nat × List Nat)} (h : Tb B w0 w pt pl pd kv ring u sec P) {v : Value} {C : List Chg} (hv : ChgV w v C) (hC0 : 0 < C.length) (hC : C.length ≤ 60) (hw : weigh C ≤ 61440) (hkey : ∀ c ∈ C, 0 < c.key.length ∧ c.key.length ≤ 64) (hd : ∀ c ∈ C, c.drop = false)
    (hB : B ≤ w.heap.size) (N : Nat) (hN : 16 + 27 * C.length + weigh C = N) (hroom : u + cellsN N ≤ ring) (hring : ring ≤ 65534) (hP : P.length ≤ 5000) (hk : ∀ j (hj : j < C.length), ∀ x ∈ P ++ (C.take j).map (fun c => (c.key, c.val)), decide (0 ≤ cmpL x.1 C[j].key) = false) :
    Calls Try.prog 12 #[.pointer (some ⟨pt, 0, none⟩), v] w fun e w' => e = .returned (.int .i64 0) ∧ Tb B w0 w' pt pl pd kv ring (u + cellsN N) sec (P ++ C.map fun c => (c.key, c.val)) ∧ LT w w' := by
  obtain ⟨a, cap, rfl, h1, h2, -⟩ := id hv
  have HV := Lib.hid hv
  have HT := Lib.hid h
  have HNO : Hid (Calls Try.prog 31 #[.pointer (some ⟨pt, 0, none⟩)] w fun e w' => e = .returned (.bool false) ∧ w = w') := Lib.hid (by
    obtain ⟨_, ⟨cost, pv, L, ht, _⟩, _⟩ := h
    exact ht.none)
  have HC := Lib.hid (And.intro hC0 (And.intro hC (And.intro hw (And.intro hkey (And.intro hd (And.intro hB (And.intro hN (And.intro hroom (And.intro hring (And.intro hP hk))))))))))
  have hcl : (C.length : Int) ≤ 60 := by omega
  have hc0 : ¬ (C.length : Int) = 0 := by omega
  have hwz : (weigh C : Int) ≤ 61440 := by omega
  clear h1 h2 hv h hC0 hC hw hkey hd hB hN hroom hring hP hk
  go_enter Try.func12, Try.ntmps12
  go_wp2_with (first | (go_at_call 31; refine HNO.out.mono ?_; rintro e w' ⟨rfl, rfl⟩))
  go_loopw [15, 5] (fun i z wr => ∃ k : Nat, k ≤ C.length ∧ i = .int .i64 (k : Nat) ∧ z = .int .i64 (weigh (C.take k) : Nat) ∧ Below w.heap.size w wr) (fun i _ _ => C.length - (RowKit.intOf i).toNat)
  case atStart => exact ⟨0, Nat.zero_le _, rfl, rfl, Below.refl _ _⟩
  case round =>
    obtain ⟨k, hk, rfl, rfl, hb⟩ := hrel
    have HB := Lib.hid hb
    by_cases hkn : k < C.length
    · have hkz : (k : Int) < (C.length : Int) := by omega
      obtain ⟨a2, cap2, e, -, -, h3⟩ := HV.out.below hb
      obtain ⟨rfl, -, rfl⟩ := Value.slice.inj e
      obtain ⟨g, off, rfl, hcell⟩ : ∃ g off, a = some ⟨g, off, none⟩ ∧ ∀ i (h : i < C.length), ∃ ka kl kc va vl vc,
          wr.cell? ⟨g, off + i * 3, none⟩ = some (.slice ka kl kc) ∧ wr.cell? ⟨g, off + i * 3 + 1, none⟩ = some (.slice va vl vc) ∧ wr.cell? ⟨g, off + i * 3 + 2, none⟩ = some (.bool C[i].drop) ∧ RowB wr (.slice ka kl kc) C[i].key ∧ RowB wr (.slice va vl vc) C[i].val := by
        rcases h3 with h3 | h3
        · rw [h3] at hkn; simp at hkn
        · exact h3
      obtain ⟨ka, kl, kc, va, vl, vc, c0, c1, c2, r1, r2⟩ := hcell k hkn
      have hkl : C[k].key.length = kl := by obtain ⟨_, _, _, e, h, _⟩ := r1; obtain ⟨-, rfl, -⟩ := Value.slice.inj e; exact h
      have hvl : C[k].val.length = vl := by obtain ⟨_, _, _, e, h, _⟩ := r2; obtain ⟨-, rfl, -⟩ := Value.slice.inj e; exact h
      obtain ⟨m, hm⟩ : ∃ m, weigh (C.take k) = m := ⟨_, rfl⟩
      have HNX : Hid (weigh (C.take (k + 1)) = m + (kl + vl)) := Lib.hid (by
        rw [List.take_succ_eq_append_getElem hkn, weigh_append, hm]
        simp [weigh, hkl, hvl])
      have hkk := HC.out.2.2.2.1 _ (List.getElem_mem hkn)
      rw [hkl] at hkk
      have hdw : m + (kl + vl) ≤ 61440 := by
        have h1 := weigh_at C k hkn
        rw [hm, hkl, hvl] at h1
        have := HC.out.2.2.1
        omega
      have g1 : ¬ (kl : Int) = 0 := by omega
      have g2 : ¬ (64 : Int) < (kl : Int) := by omega
      have g3 : (m : Int) + ((kl : Int) + (vl : Int)) ≤ 61440 := by omega
      have g4 : decide ((64 : Int) < (kl : Int)) = false := decide_eq_false g2
      have g5 : ((kl : Int) == 0) = false := by simp; omega
      have HKN := Lib.hid hkn
      generalize C[k].drop = dd at *
      rw [hm]
      clear h3 hcell e r1 r2 hkl hvl hm hkk hdw hb
      go_upto_region 7 with (fail)
      have HX5 := Lib.hid (heap_alloc_new wr (.cells #[.slice ka kl kc, .slice va vl vc, .bool dd] 35))
      have HB5 : Hid (Below w.heap.size w (wr.alloc (.cells #[.slice ka kl kc, .slice va vl vc, .bool dd] 35))) := Lib.hid (HB.out.alloc HB.out.size _)
      clear c0 c1 c2
      generalize wr.alloc (.cells #[.slice ka kl kc, .slice va vl vc, .bool dd] 35) = w5 at *
      generalize wr.heap.size = b5 at *
      have x0 := cell_of_row w5 b5 0 _ _ _ HX5.out
      have x1 := cell_of_row w5 b5 1 _ _ _ HX5.out
      simp only [List.getElem?_toArray, List.getElem?_cons_zero, List.getElem?_cons_succ] at x0 x1
      go_wp2_with fail
      go_roundw
      case rel => exact ⟨k + 1, HKN.out, by go_num, by rw [HNX.out]; go_num, HB5.out⟩
      case measure => simp [intOf]; omega
    · obtain rfl : k = C.length := by omega
      rw [List.take_length]
      obtain ⟨hC0, hC, hw, hkey, hd, hB, hN, hroom, hring, hP, hkk⟩ := HC.out
      have hlen : ∀ c ∈ C, c.key.length ≤ 1000000 ∧ c.val.length ≤ 1000000 := by
        intro c hc
        obtain ⟨j, hj, rfl⟩ := List.getElem_of_mem hc
        have := weigh_at C j hj
        omega
      have HCP := Lib.hid (copies_any (HV.out.below hb) (by omega) hlen)
      have HTB := Lib.hid (HT.out.below hb)
      have HWB : Hid (B ≤ wr.heap.size) := Lib.hid (Nat.le_trans hB hb.size)
      obtain ⟨wt, hwt⟩ : ∃ x, weigh C = x := ⟨_, rfl⟩
      rw [hwt]
      rw [hwt] at hwz
      have hgt : ¬ (61440 : Int) < (wt : Int) := by omega
      have hgd : decide ((61440 : Int) < (wt : Int)) = false := decide_eq_false hgt
      have hg4 : ¬ (400 : Int) < (C.length : Int) := by omega
      clear hb hC0 hC hw hkey hd hB hN hroom hring hP hkk hlen hwt
      go_upto_region 16 with (first | (go_at_call 33; refine HCP.out.mono ?_; rintro e w5 ⟨o5, L, rfl, hcr, hlm, hb5⟩; have HCR := Lib.hid hcr; have HLM := Lib.hid hlm; have HB5 := Lib.hid hb5; clear hcr hlm hb5))
      have hown : L.map Ch.of = C := by
        rw [HLM.out]
        have : C.map Chg.own = C.map id := List.map_congr_left fun c hc => by
          have := HC.out.2.2.2.2.1 c hc
          unfold Chg.own
          rw [this]
          obtain ⟨a, b, d⟩ := c
          simp at this
          simp [this]
        rw [this, List.map_id]
      have HOW := Lib.hid hown
      obtain ⟨oa, oc, rfl⟩ := own_shape HCR.out.row
      have HWR := Lib.hid (twrite_any (HTB.out.below HB5.out) (C := C) (by rw [← hown]; exact HCR.out.chgV) HC.out.2.1 HC.out.2.2.1 N HC.out.2.2.2.2.2.2.1 HC.out.2.2.2.2.2.2.2.1 HC.out.2.2.2.2.2.2.2.2.1)
      clear hown
      go_upto_region 19 with (first | (go_at_call 34; refine HWR.out.mono ?_; rintro e w6 ⟨rfl, ht6, hl6⟩; have HT6 := Lib.hid ht6; have HL6 := Lib.hid hl6; clear ht6 hl6))
      have HT6b := Lib.hid HT6.out
      obtain ⟨st6, ⟨cost6, pv6, L6, htv6, -⟩, -⟩ := HT6.out
      obtain ⟨t0, -, -, -⟩ := htv6.cells
      clear st6 htv6
      have HSY := Lib.hid (sync_t HT6b.out)
      go_upto_region 22 with (first | (go_at_call 32; refine HSY.out.mono ?_; rintro e w7 ⟨rfl, ht7, hl7⟩; have HT7 := Lib.hid ht7; have HL7 := Lib.hid hl7; clear ht7 hl7))
      have hLC : L.length = C.length := by rw [← HOW.out]; simp
      have hpair : ∀ M : List Ch, M.map Ch.pair = (M.map Ch.of).map fun c => (c.key, c.val) := fun M => by rw [List.map_map]; rfl
      have HAP := Lib.hid (apply_end HT7.out (L := L) ((((HCR.out.lt HL6.out).lt HL7.out).mono HWB.out)) (fun x hx => by
          have h1 : x.of ∈ C := by rw [← HOW.out]; exact List.mem_map_of_mem hx
          exact HC.out.2.2.2.2.1 _ h1) (Nat.le_trans HWB.out (Nat.le_trans HB5.out.size (Nat.le_trans HL6.out.size HL7.out.size))) (by have := HC.out; omega) (fun j hj x hx => by
          have hj2 : j < C.length := by omega
          have e1 : C[j].key = L[j].key := by
            have : C[j] = (L.map Ch.of)[j]'(by simpa using hj) := by simp only [HOW.out]
            rw [this, List.getElem_map]
            rfl
          have e2 : (L.take j).map Ch.pair = (C.take j).map fun c => (c.key, c.val) := by
            rw [hpair]
            congr 1
            rw [List.map_take, HOW.out]
          rw [e2] at hx
          rw [← e1]
          exact HC.out.2.2.2.2.2.2.2.2.2.2 j hj2 x hx))
      have hfin : P ++ L.map Ch.pair = P ++ C.map fun c => (c.key, c.val) := by rw [hpair, HOW.out]
      rw [hfin] at HAP
      clear t0 hLC hpair hfin
      go_wp2_with (first | (go_at_call 29; refine HAP.out.mono ?_; rintro e w8 ⟨rfl, ht8, hl8⟩; have HT8 := Lib.hid ht8; have HL8 := Lib.hid hl8; clear ht8 hl8))
      go_ret
      exact ⟨rfl, HT8.out, (((Below.lt HB.out).trans (Below.lt HB5.out)).trans HL6.out).trans (HL7.out.trans HL8.out)⟩
end
section
set_option linter.unusedVariables false

theorem cmpL_lt_irrefl (a : List Nat) : ¬ cmpL a a < 0 := by rw [cmpL_same]; omega
theorem cmpL_flip : ∀ a b : List Nat, cmpL b a = - cmpL a b
  | [], [] => rfl
  | [], _ :: _ => rfl
  | _ :: _, [] => rfl
  | a :: u, b :: v => by
    rw [cmpL, cmpL]
    have := cmpL_flip u v
    split <;> split <;> first | omega | (split <;> omega) | rfl | skip
theorem cmpL_eq0 : ∀ a b : List Nat, cmpL a b = 0 → a = b
  | [], [], _ => rfl
  | [], _ :: _, h => by simp [cmpL] at h
  | _ :: _, [], h => by simp [cmpL] at h
  | a :: u, b :: v, h => by
    rw [cmpL] at h
    split at h
    · omega
    · split at h
      · omega
      · have h1 : a = b := by omega
        rw [h1, cmpL_eq0 u v h]
theorem cmpL_trans : ∀ a b c : List Nat, cmpL a b < 0 → cmpL b c < 0 → cmpL a c < 0
  | [], b, [], h, k => by
    cases b with
    | nil => simp [cmpL] at h
    | cons b v => simp [cmpL] at k
  | [], b, c :: x, h, k => by simp [cmpL]
  | a :: u, [], c, h, k => by simp [cmpL] at h
  | a :: u, b :: v, [], h, k => by simp [cmpL] at k
  | a :: u, b :: v, c :: x, h, k => by
    rw [cmpL] at h k ⊢
    by_cases h1 : a < b
    · by_cases k1 : b < c
      · rw [if_pos (by omega)]; omega
      · rw [if_neg k1] at k
        by_cases k2 : c < b
        · rw [if_pos k2] at k; omega
        · rw [if_pos (by omega)]; omega
    · rw [if_neg h1] at h
      by_cases h2 : b < a
      · rw [if_pos h2] at h; omega
      · rw [if_neg h2] at h
        by_cases k1 : b < c
        · rw [if_pos (by omega)]; omega
        · rw [if_neg k1] at k
          by_cases k2 : c < b
          · rw [if_pos k2] at k; omega
          · rw [if_neg k2] at k
            rw [if_neg (by omega), if_neg (by omega)]
            exact cmpL_trans u v x h k

abbrev KV := List Nat × List Nat
/-- how many stand ahead of a key -/
def scanL : List KV → List Nat → Nat
  | [], _ => 0
  | x :: r, key => if cmpL x.1 key < 0 then scanL r key + 1 else 0
theorem scanL_le (P : List KV) (key : List Nat) : scanL P key ≤ P.length := by
  induction P with
  | nil => exact Nat.le_refl _
  | cons x r ih => unfold scanL; split <;> simp <;> omega
theorem scanL_before (P : List KV) (key : List Nat) : ∀ i (h : i < P.length), i < scanL P key → cmpL P[i].1 key < 0 := by
  induction P with
  | nil => intro i h; simp at h
  | cons x r ih =>
    intro i h hi
    unfold scanL at hi
    split at hi
    · cases i with
      | zero => assumption
      | succ i => exact ih i (by simpa using h) (by omega)
    · omega
theorem scanL_at (P : List KV) (key : List Nat) (h : scanL P key < P.length) : ¬ cmpL P[scanL P key].1 key < 0 := by
  induction P with
  | nil => simp at h
  | cons x r ih =>
    by_cases hx : cmpL x.1 key < 0
    · have e : scanL (x :: r) key = scanL r key + 1 := by rw [scanL, if_pos hx]
      have h2 : scanL r key < r.length := by rw [e] at h; simpa using h
      have := ih h2
      simp only [e, List.getElem_cons_succ]
      exact this
    · have e : scanL (x :: r) key = 0 := by rw [scanL, if_neg hx]
      simp only [e, List.getElem_cons_zero]
      exact hx
theorem scanL_step (P : List KV) (key : List Nat) (i : Nat) (h : i < P.length) (hi : i ≤ scanL P key) : (i < scanL P key) = (cmpL P[i].1 key < 0) := by
  apply propext
  constructor
  · exact scanL_before P key i h
  · intro hc
    by_cases he : i = scanL P key
    · subst he; exact absurd hc (scanL_at P key h)
    · omega
/-- each key is less than those behind it -/
def SortP (P : List KV) : Prop := P.Pairwise fun x y => cmpL x.1 y.1 < 0
theorem SortP.scan {P : List KV} (hs : SortP P) (key : List Nat) : ∀ i (h : i < P.length), decide (0 ≤ cmpL P[i].1 key) = decide (scanL P key ≤ i) := by
  intro i h
  by_cases hi : scanL P key ≤ i
  · rw [decide_eq_true hi, decide_eq_true]
    have h0 := scanL_at P key (by omega)
    by_cases he : scanL P key = i
    · subst he; omega
    · have h1 : cmpL P[scanL P key].1 P[i].1 < 0 := List.pairwise_iff_getElem.1 hs _ _ _ _ (by omega)
      rcases Nat.lt_or_ge 0 0 with h2 | _
      · omega
      · apply Classical.byContradiction
        intro hc
        exact h0 (cmpL_trans _ _ _ h1 (by omega))
  · have := scanL_before P key i h (by omega)
    rw [decide_eq_false hi, decide_eq_false (by omega)]
/-- what a change makes of it -/
def putP (P : List KV) (c : Chg) : List KV :=
  if P[scanL P c.key]?.map (·.1) = some c.key then
    if c.drop then P.take (scanL P c.key) ++ P.drop (scanL P c.key + 1) else P.set (scanL P c.key) (c.key, c.val)
  else if c.drop then P else P.take (scanL P c.key) ++ (c.key, c.val) :: P.drop (scanL P c.key)
def doneP (P : List KV) (l : List Chg) : List KV := l.foldl putP P
theorem putP_own (P : List KV) (c : Chg) : putP P c.own = putP P c := by
  obtain ⟨k, v, d⟩ := c
  cases d <;> rfl
theorem doneP_own (P : List KV) (l : List Chg) : doneP P (l.map Chg.own) = doneP P l := by
  unfold doneP
  rw [List.foldl_map]
  congr 1
  funext P c
  exact putP_own P c
theorem putP_length (P : List KV) (c : Chg) : (putP P c).length ≤ P.length + 1 := by
  unfold putP
  have := scanL_le P c.key
  split
  · split
    · simp; omega
    · simp
  · split
    · omega
    · simp; omega
theorem doneP_length (l : List Chg) (P : List KV) : (doneP P l).length ≤ P.length + l.length := by
  induction l generalizing P with
  | nil => exact Nat.le_refl _
  | cons c l ih =>
    have h1 := ih (putP P c)
    have h2 := putP_length P c
    have : doneP P (c :: l) = doneP (putP P c) l := rfl
    rw [this]
    simp
    omega
theorem putP_sort {P : List KV} (hs : SortP P) (c : Chg) : SortP (putP P c) := by
  unfold putP
  have hle := scanL_le P c.key
  have hb := scanL_before P c.key
  split
  · rename_i he
    split
    · unfold SortP at *
      have h1 : (P.take (scanL P c.key) ++ P.drop (scanL P c.key + 1)).Sublist P := by
        conv => rhs; rw [← List.take_append_drop (scanL P c.key) P]
        refine List.Sublist.append (List.Sublist.refl _) ?_
        rw [← List.drop_drop]
        exact List.drop_sublist _ _
      exact hs.sublist h1
    · have hk : scanL P c.key < P.length := by
        apply Classical.byContradiction
        intro hn
        rw [List.getElem?_eq_none (by omega)] at he
        simp at he
      rw [List.getElem?_eq_getElem hk] at he
      simp at he
      unfold SortP at *
      rw [List.pairwise_iff_getElem] at *
      intro i j hi hj hij
      rw [List.getElem_set, List.getElem_set]
      have := hs i j (by simpa using hi) (by simpa using hj) hij
      split
      · rename_i e
        subst e
        rw [if_neg (by omega)]
        show cmpL c.key _ < 0
        rw [he] at this; exact this
      · split
        · rename_i e
          subst e
          show cmpL _ c.key < 0
          rw [he] at this; exact this
        · exact this
  · rename_i he
    split
    · exact hs
    · have ht := hs.scan c.key
      unfold SortP at *
      have hst := hs
      rw [List.pairwise_append, List.pairwise_cons]
      refine ⟨hs.sublist (List.take_sublist _ _), ⟨?_, hs.sublist (List.drop_sublist _ _)⟩, ?_⟩
      · intro y hy
        obtain ⟨i, hi, rfl⟩ := List.getElem_of_mem hy
        rw [List.getElem_drop]
        rw [List.length_drop] at hi
        have h1 := ht (scanL P c.key + i) (by omega)
        rw [decide_eq_true (by omega : scanL P c.key ≤ scanL P c.key + i)] at h1
        have h2 := of_decide_eq_true h1
        show cmpL c.key _ < 0
        rw [cmpL_flip]
        by_cases h3 : cmpL P[scanL P c.key + i].1 c.key = 0
        · exfalso
          have h4 := cmpL_eq0 _ _ h3
          by_cases h5 : i = 0
          · subst h5
            rw [List.getElem?_eq_getElem (by omega)] at he
            exact he (by simpa using h4)
          · have h6 : cmpL P[scanL P c.key].1 P[scanL P c.key + i].1 < 0 := List.pairwise_iff_getElem.1 hst _ _ _ _ (by omega)
            rw [h4] at h6
            exact scanL_at P c.key (by omega) h6
        · omega
      · intro x hx y hy
        obtain ⟨i, hi, rfl⟩ := List.getElem_of_mem hx
        rw [List.length_take] at hi
        rw [List.getElem_take]
        have h1 := hb i (by omega) (by omega)
        rcases List.mem_cons.1 hy with rfl | hy
        · exact h1
        · obtain ⟨j, hj, rfl⟩ := List.getElem_of_mem hy
          rw [List.getElem_drop]
          rw [List.length_drop] at hj
          exact List.pairwise_iff_getElem.1 hst _ _ _ _ (by omega)
theorem doneP_sort (l : List Chg) {P : List KV} (hs : SortP P) : SortP (doneP P l) := by
  induction l generalizing P with
  | nil => exact hs
  | cons c l ih => exact ih (putP_sort hs c)
end
section
set_option linter.unusedVariables false
open Go.RowKit

theorem prC_take (L : List Pr) (i : Nat) : (prC L).take (i * 2) = prC (L.take i) := by
  induction L generalizing i with
  | nil => simp [prC]
  | cons x r ih =>
    have e : ∀ (y : Pr) (M : List Pr), prC (y :: M) = y.kv :: y.vv :: prC M := fun y M => by simp [prC, Pr.cells]
    cases i with
    | zero => rfl
    | succ i => rw [e, show (i + 1) * 2 = i * 2 + 1 + 1 by omega, List.take_succ_cons, List.take_succ_cons, ih, List.take_succ_cons, e]
theorem prC_drop (L : List Pr) (i : Nat) : (prC L).drop (i * 2) = prC (L.drop i) := by
  induction L generalizing i with
  | nil => simp [prC]
  | cons x r ih =>
    have e : ∀ (y : Pr) (M : List Pr), prC (y :: M) = y.kv :: y.vv :: prC M := fun y M => by simp [prC, Pr.cells]
    cases i with
    | zero => rfl
    | succ i => rw [e, show (i + 1) * 2 = i * 2 + 1 + 1 by omega, List.drop_succ_cons, List.drop_succ_cons, ih, List.drop_succ_cons]
theorem prC_ins (L : List Pr) (i : Nat) (x : Pr) : prC (L.take i ++ x :: L.drop i) = (prC L).take (i * 2) ++ [x.kv, x.vv] ++ (prC L).drop (i * 2) := by
  rw [prC_take, prC_drop, prC_append, List.append_assoc]
  congr 1
theorem prC_del (L : List Pr) (i : Nat) : prC (L.take i ++ L.drop (i + 1)) = (prC L).take (i * 2) ++ (prC L).drop (i * 2 + 2) := by
  rw [prC_append, prC_take, show i * 2 + 2 = (i + 1) * 2 by omega, prC_drop]
theorem prC_set (L : List Pr) (i : Nat) (x : Pr) (h : i < L.length) (hk : x.kv = L[i].kv) : prC (L.set i x) = (prC L).set (i * 2 + 1) x.vv := by
  induction L generalizing i with
  | nil => simp at h
  | cons y r ih =>
    have e : ∀ (y : Pr) (M : List Pr), prC (y :: M) = y.kv :: y.vv :: prC M := fun y M => by simp [prC, Pr.cells]
    cases i with
    | zero =>
      simp only [List.getElem_cons_zero] at hk
      rw [List.set_cons_zero, e, e, hk]
      rfl
    | succ i =>
      simp only [List.getElem_cons_succ] at hk
      rw [List.set_cons_succ, e, e, ih i (by simpa using h) hk, show (i + 1) * 2 + 1 = i * 2 + 1 + 1 + 1 by omega, List.set_cons_succ, List.set_cons_succ]
theorem prC_one (L : List Pr) (h : ∀ x ∈ L, x.kv.oneCell' = true ∧ x.vv.oneCell' = true) : ∀ u ∈ prC L, u.oneCell' = true := by
  intro u hu
  obtain ⟨x, hx, h2⟩ := List.mem_flatMap.1 hu
  simp [Pr.cells] at h2
  rcases h2 with rfl | rfl
  · exact (h x hx).1
  · exact (h x hx).2
theorem PairR.one {w : World} {B : Nat} {pv : Value} {L : List Pr} (h : PairR w B pv L) : ∀ u ∈ prC L, u.oneCell' = true := prC_one L fun x hx => by
  obtain ⟨o1, o2, -⟩ := h.own x hx
  obtain ⟨a1, c1, e1⟩ := o1.shape
  obtain ⟨a2, c2, e2⟩ := o2.shape
  rw [e1, e2]
  exact ⟨rfl, rfl⟩

theorem Tb.upd {B : Nat} {w0 w w7 : World} {pt pl pd : Nat} {kv : Value} {ring u sec cost : Nat} {s : LgS} {S : List (List Nat)} {W : List (Nat × List Nat)} {pv pv' : Value} {L L' : List Pr} (hl : Lg B w0 w pl pd kv s S W)
    (hst : Fit s S W ∧ s.ring = ring ∧ s.used ≤ u ∧ s.number ≤ u + 1 ∧ s.ents.length ≤ u ∧ W.length ≤ u) (ht : TbV w pt (.pointer (some ⟨pl, 0, none⟩)) sec cost pv) (hc : cost ≤ 3 * u) (hr : PairR w B pv L) (hB : B ≤ pt) (hu : u ≤ 65534)
    (hb : Beside (fun k => k = pt ∨ pv.ownBlock = some k) w w7) (ht7 : TbV w7 pt (.pointer (some ⟨pl, 0, none⟩)) sec cost pv') (ho : w7.ownsRow B 79 2 pv' L'.length (prC L'))
    (hx : ∀ x ∈ L', OwnB w B x.kv x.key ∧ OwnB w B x.vv x.val ∧ (∀ n ∈ x.key, n < 256) ∧ ∀ n ∈ x.val, n < 256) :
    Tb B w0 w7 pt pl pd kv ring u sec (L'.map Pr.of) ∧ LT w w7 := by
  have hown : ∀ k, (k = pt ∨ pv.ownBlock = some k) → B ≤ k ∧ ∃ cs t fr, w.heap[k]? = some (.cells cs t fr) ∧ (t = 68 ∨ t = 79) := by
    rintro k (rfl | hk)
    · exact ⟨hB, _, _, _, ht, .inl rfl⟩
    · obtain ⟨h1, h2⟩ := World.ownsRow.lt hr.row k hk
      rcases hr.row.2 with ⟨e, _⟩ | ⟨g, cap, cur, e, hg, hh, _⟩
      · rw [e] at hk; cases hk
      · rw [e] at hk
        obtain rfl : g = k := by simpa [Value.ownBlock] using hk
        exact ⟨h1, _, _, _, hh, .inr rfl⟩
  have hnb : ∀ (v : Value) (l : List Nat), OwnB w B v l → OwnB w7 B v l := by
    intro v l h
    refine ownsRow_beside h hb (fun k hk hkk => ?_)
    obtain ⟨_, cs, t, fr, hh, ht⟩ := hown k hkk
    exact ownsRow_ne h hh (by rintro rfl; rcases ht with h | h <;> cases h) k hk rfl
  refine ⟨⟨⟨s, S, W, hl.beside hb (fun k hk => ?_), hst⟩, ⟨cost, _, L', ht7, hc, ⟨ho, fun x h => ?_⟩, rfl⟩, hB, hu⟩, LT.beside hb ?_⟩
  · obtain ⟨h1, cs, t, fr, hh, ht⟩ := hown k hk
    exact ⟨h1, cs, t, fr, hh, by rcases ht with rfl | rfl <;> decide⟩
  · obtain ⟨o1, o2, o3⟩ := hx x h
    exact ⟨hnb _ _ o1, hnb _ _ o2, o3⟩
  · intro k hk cs t fr hh
    obtain ⟨_, cs2, t2, fr2, hh2, ht⟩ := hown k hk
    rw [hh] at hh2
    simp at hh2
    rw [hh2.2.1]
    exact ht
/-- .. by a store into the table's own block, behind what turned the pairs' block alone -/
theorem Tb.upd3 {B : Nat} {w0 w w7 : World} {pt pl pd : Nat} {kv : Value} {ring u sec cost : Nat} {s : LgS} {S : List (List Nat)} {W : List (Nat × List Nat)} {pv pv' : Value} {L L' : List Pr} (hl : Lg B w0 w pl pd kv s S W)
    (hst : Fit s S W ∧ s.ring = ring ∧ s.used ≤ u ∧ s.number ≤ u + 1 ∧ s.ents.length ≤ u ∧ W.length ≤ u) (ht : TbV w pt (.pointer (some ⟨pl, 0, none⟩)) sec cost pv) (hc : cost ≤ 3 * u) (hr : PairR w B pv L) (hB : B ≤ pt) (hu : u ≤ 65534)
    (hb : Beside (fun k => pv.ownBlock = some k) w w7) (ho : w7.ownsRow B 79 2 pv' L'.length (prC L'))
    (hx : ∀ x ∈ L', OwnB w B x.kv x.key ∧ OwnB w B x.vv x.val ∧ (∀ n ∈ x.key, n < 256) ∧ ∀ n ∈ x.val, n < 256) :
    Tb B w0 (w7.setCell ⟨pt, 3, none⟩ pv') pt pl pd kv ring u sec (L'.map Pr.of) ∧ LT w (w7.setCell ⟨pt, 3, none⟩ pv') := by
  have ht7 : TbV w7 pt (.pointer (some ⟨pl, 0, none⟩)) sec cost pv := (hb.block pt (lt_of_block ht) (fun e => ownsRow_ne hr.row ht (by decide) pt e rfl)).trans ht
  refine Tb.upd hl hst ht hc hr hB hu ((hb.mono (fun k _ h => .inr h)).setCell (p := ⟨pt, 3, none⟩) (.inl (.inl rfl)) _) (ht7.set3 _) ?_ hx
  refine ownsRow_beside (own := fun k => k = pt) ho ((Beside.refl (fun k => k = pt) w7).setCell (p := ⟨pt, 3, none⟩) (.inl rfl) _) (fun k hk e => ?_)
  subst e
  exact ownsRow_ne ho ht7 (by decide) _ hk rfl
end
section
set_option linter.unusedVariables false
open Go.RowKit

set_option maxRecDepth 100000 in
theorem zero_pair (w : World) : (zeroValue 79).run Try.prog w = .ok (.agg #[.slice none 0 0, .slice none 0 0]) w := by
  first
    | rfl
    | kernel_rfl

theorem run_clear_pair (w : World) (ty : TypeId) (b o c : Nat) (hc : ∀ j, j < 2 → (w.cell? ⟨b, o + j, none⟩).isSome = true) (hf : ∀ j, j < 2 → w.frozen? ⟨b, o + j, none⟩ = false) :
    (Builtin.clear_ #[66] ty #[.slice (some ⟨b, o, none⟩) 1 c]).run Try.prog w = .ok (.tuple #[]) (w.setCells b o [.slice none 0 0, .slice none 0 0]) := by
  have hzc : (Builtin.zeroCells (Value.agg #[.slice none 0 0, .slice none 0 0]).cells 1).toList = [.slice none 0 0, .slice none 0 0] := by
    simp [Builtin.zeroCells, Value.cells, List.range_succ]
  have hst := run_storeCells_cells (P := Try.prog) b o [.slice none 0 0, .slice none 0 0] 0 w (by simpa using hc) (by simpa using hf) (by intro v hv'; simp at hv'; subst hv'; rfl)
  simp only [Nat.add_zero] at hst
  simp [Builtin.clear_, run_underlying Try.underlying66, hzc, hst]
end
end Go.Proofs.Ytmnbkhgogogeiaa
