/-
  Several texts of one proof, each in a section of its own: DoC, Str, RangeW, Round.
-/
import Derived.Test.YtmnbkhgogogeiaaApplCRg
import Derived.Test.YtmnbkhgogogeiaaRg19
import Derived.Test.YtmnbkhgogogeiaaRg20
import Derived.Test.YtmnbkhgogogeiaaRangeVRg
import Derived.Test.YtmnbkhgogogeiaaRg25
import Derived.OrdersIn
import Derived.Deep.RegionHeld
namespace Go.Proofs.Ytmnbkhgogogeiaa
section
set_option linter.unusedVariables false
open Go.RowKit

set_option maxRecDepth 100000 in
set_option maxHeartbeats 4000000 in
theorem do_c {B : Nat} {w0 w : World} {pt pl pd : Nat} {kv : Value} {q : Lim} {P : List KV} (h : Tc B w0 w pt pl pd kv q P) {v : Value} {C : List Chg} (hv : ChgV w v C) (hC0 : 0 < C.length) (hC : C.length ≤ 60) (hw : weigh C ≤ 61440) (hkey : ∀ c ∈ C, 0 < c.key.length ∧ c.key.length ≤ 64)
    (hB : B ≤ w.heap.size) (N : Nat) (hN : 16 + 27 * C.length + weigh C = N) (hK : cellsN N ≤ q.K) (hroom : (q.ne + 1) * q.K ≤ q.ring) (hring : q.nb + q.K ≤ 500000) (hP : P.length ≤ 5000) (hS : SortP P) :
    Calls Try.prog 12 #[.pointer (some ⟨pt, 0, none⟩), v] w fun e w' => e = .returned (.int .i64 0) ∧ Tc B w0 w' pt pl pd kv q.wrote (doneP P C) ∧ LT w w' := by
  obtain ⟨a, cap, rfl, h1, h2, -⟩ := id hv
  have HV := Lib.hid hv
  have HT := Lib.hid h
  have HNO : Hid (Calls Try.prog 31 #[.pointer (some ⟨pt, 0, none⟩)] w fun e w' => e = .returned (.bool false) ∧ w = w') := Lib.hid (by
    obtain ⟨_, ⟨cost, pv, L, ht, _⟩, _⟩ := h
    exact ht.none)
  have HC := Lib.hid (And.intro hC0 (And.intro hC (And.intro hw (And.intro hkey (And.intro hB (And.intro hN (And.intro (And.intro hK hroom) (And.intro hring (And.intro hP hS)))))))))
  have hcl : (C.length : Int) ≤ 60 := by omega
  have hc0 : ¬ (C.length : Int) = 0 := by omega
  have hwz : (weigh C : Int) ≤ 61440 := by omega
  clear h1 h2 hv h hC0 hC hw hkey hB hN hK hroom hring hP hS
  go_enter Try.func12, Try.ntmps12
  go_wp2_with (first | (go_at_call 31; refine HNO.out.mono ?_; rintro e w' ⟨rfl, rfl⟩))
  go_loopw [15, 5] (fun i z wr => ∃ k : Nat, k ≤ C.length ∧ i = .int .i64 (k : Nat) ∧ z = .int .i64 (weigh (C.take k) : Nat) ∧ Below w.heap.size w wr) (fun i _ _ => C.length - (RowKit.intOf i).toNat)
  case atStart => exact ⟨0, Nat.zero_le _, rfl, rfl, Below.refl _ _⟩
  case round =>
    obtain ⟨k, hk, rfl, rfl, hb⟩ := hrel
    have HB := Lib.hid hb
    by_cases hkn : k < C.length
    · have hkz : (k : Int) < (C.length : Int) := by omega
      obtain ⟨a2, cap2, e, -, -, h3⟩ := HV.out.below hb
      obtain ⟨rfl, -, rfl⟩ := Value.slice.inj e
      obtain ⟨g, off, rfl, hcell⟩ : ∃ g off, a = some ⟨g, off, none⟩ ∧ ∀ i (h : i < C.length), ∃ ka kl kc va vl vc,
          wr.cell? ⟨g, off + i * 3, none⟩ = some (.slice ka kl kc) ∧ wr.cell? ⟨g, off + i * 3 + 1, none⟩ = some (.slice va vl vc) ∧ wr.cell? ⟨g, off + i * 3 + 2, none⟩ = some (.bool C[i].drop) ∧ RowB wr (.slice ka kl kc) C[i].key ∧ RowB wr (.slice va vl vc) C[i].val := by
        rcases h3 with h3 | h3
        · rw [h3] at hkn; simp at hkn
        · exact h3
      obtain ⟨ka, kl, kc, va, vl, vc, c0, c1, c2, r1, r2⟩ := hcell k hkn
      have hkl : C[k].key.length = kl := by obtain ⟨_, _, _, e, h, _⟩ := r1; obtain ⟨-, rfl, -⟩ := Value.slice.inj e; exact h
      have hvl : C[k].val.length = vl := by obtain ⟨_, _, _, e, h, _⟩ := r2; obtain ⟨-, rfl, -⟩ := Value.slice.inj e; exact h
      obtain ⟨m, hm⟩ : ∃ m, weigh (C.take k) = m := ⟨_, rfl⟩
      have HNX : Hid (weigh (C.take (k + 1)) = m + (kl + vl)) := Lib.hid (by
        rw [List.take_succ_eq_append_getElem hkn, weigh_append, hm]
        simp [weigh, hkl, hvl])
      have hkk := HC.out.2.2.2.1 _ (List.getElem_mem hkn)
      rw [hkl] at hkk
      have hdw : m + (kl + vl) ≤ 61440 := by
        have h1 := weigh_at C k hkn
        rw [hm, hkl, hvl] at h1
        have := HC.out.2.2.1
        omega
      have g1 : ¬ (kl : Int) = 0 := by omega
      have g2 : ¬ (64 : Int) < (kl : Int) := by omega
      have g3 : (m : Int) + ((kl : Int) + (vl : Int)) ≤ 61440 := by omega
      have g4 : decide ((64 : Int) < (kl : Int)) = false := decide_eq_false g2
      have g5 : ((kl : Int) == 0) = false := by simp; omega
      have HKN := Lib.hid hkn
      generalize C[k].drop = dd at *
      rw [hm]
      clear h3 hcell e r1 r2 hkl hvl hm hkk hdw hb
      go_upto_region 7 with (fail)
      have HX5 := Lib.hid (heap_alloc_new wr (.cells #[.slice ka kl kc, .slice va vl vc, .bool dd] 35))
      have HB5 : Hid (Below w.heap.size w (wr.alloc (.cells #[.slice ka kl kc, .slice va vl vc, .bool dd] 35))) := Lib.hid (HB.out.alloc HB.out.size _)
      clear c0 c1 c2
      generalize wr.alloc (.cells #[.slice ka kl kc, .slice va vl vc, .bool dd] 35) = w5 at *
      generalize wr.heap.size = b5 at *
      have x0 := cell_of_row w5 b5 0 _ _ _ HX5.out
      have x1 := cell_of_row w5 b5 1 _ _ _ HX5.out
      simp only [List.getElem?_toArray, List.getElem?_cons_zero, List.getElem?_cons_succ] at x0 x1
      go_wp2_with fail
      go_roundw
      case rel => exact ⟨k + 1, HKN.out, by go_num, by rw [HNX.out]; go_num, HB5.out⟩
      case measure => simp [intOf]; omega
    · obtain rfl : k = C.length := by omega
      rw [List.take_length]
      obtain ⟨hC0, hC, hw, hkey, hB, hN, ⟨hK, hroom⟩, hring, hP, hS⟩ := HC.out
      have hlen : ∀ c ∈ C, c.key.length ≤ 1000000 ∧ c.val.length ≤ 1000000 := by
        intro c hc
        obtain ⟨j, hj, rfl⟩ := List.getElem_of_mem hc
        have := weigh_at C j hj
        omega
      have HCP := Lib.hid (copies_any (HV.out.below hb) (by omega) hlen)
      have HTB := Lib.hid (HT.out.below hb)
      have HWB : Hid (B ≤ wr.heap.size) := Lib.hid (Nat.le_trans hB hb.size)
      obtain ⟨wt, hwt⟩ : ∃ x, weigh C = x := ⟨_, rfl⟩
      rw [hwt]
      rw [hwt] at hwz
      have hgt : ¬ (61440 : Int) < (wt : Int) := by omega
      have hgd : decide ((61440 : Int) < (wt : Int)) = false := decide_eq_false hgt
      have hg4 : ¬ (400 : Int) < (C.length : Int) := by omega
      clear hb hC0 hC hw hkey hB hN hK hroom hring hP hS hlen hwt
      go_upto_region 16 with (first | (go_at_call 33; refine HCP.out.mono ?_; rintro e w5 ⟨o5, L, rfl, hcr, hlm, hb5⟩; have HCR := Lib.hid hcr; have HLM := Lib.hid hlm; have HB5 := Lib.hid hb5; clear hcr hlm hb5))
      have HOW : Hid (L.map Ch.of = C.map Chg.own) := HLM
      have hwo : weigh (C.map Chg.own) ≤ weigh C := weigh_own C
      obtain ⟨oa, oc, rfl⟩ := own_shape HCR.out.row
      have hco : cellsN (16 + 27 * (C.map Chg.own).length + weigh (C.map Chg.own)) ≤ cellsN N := cellsN_mono (by have := HC.out.2.2.2.2.2.1; rw [List.length_map]; omega)
      have HWR := Lib.hid (twrite_c (HTB.out.below HB5.out) (C := C.map Chg.own) (by rw [← HOW.out]; exact HCR.out.chgV) (by rw [List.length_map]; exact HC.out.2.1) (Nat.le_trans hwo HC.out.2.2.1) _ rfl (Nat.le_trans hco HC.out.2.2.2.2.2.2.1.1) HC.out.2.2.2.2.2.2.1.2 HC.out.2.2.2.2.2.2.2.1)
      clear hco hwo
      go_upto_region 19 with (first | (go_at_call 34; refine HWR.out.mono ?_; rintro e w6 ⟨rfl, ht6, hl6⟩; have HT6 := Lib.hid ht6; have HL6 := Lib.hid hl6; clear ht6 hl6))
      have HT6b := Lib.hid HT6.out
      obtain ⟨st6, ⟨cost6, pv6, L6, htv6, -⟩, -⟩ := HT6.out
      obtain ⟨t0, -, -, -⟩ := htv6.cells
      clear st6 htv6
      have HSY := Lib.hid (sync_c HT6b.out)
      go_upto_region 22 with (first | (go_at_call 32; refine HSY.out.mono ?_; rintro e w7 ⟨rfl, ht7, hl7⟩; have HT7 := Lib.hid ht7; have HL7 := Lib.hid hl7; clear ht7 hl7))
      have hLC : L.length = C.length := by have := congrArg List.length HOW.out; simpa using this
      have HAP := Lib.hid (apply_c HT7.out HC.out.2.2.2.2.2.2.2.2.2 (L := L) ((((HCR.out.lt HL6.out).lt HL7.out).mono HWB.out)) (Nat.le_trans HWB.out (Nat.le_trans HB5.out.size (Nat.le_trans HL6.out.size HL7.out.size))) (by have := HC.out; omega))
      have hfin : doneP P (L.map Ch.of) = doneP P C := by rw [HOW.out, doneP_own]
      rw [hfin] at HAP
      clear t0 hLC hfin
      go_wp2_with (first | (go_at_call 29; refine HAP.out.mono ?_; rintro e w8 ⟨rfl, ht8, hl8⟩; have HT8 := Lib.hid ht8; have HL8 := Lib.hid hl8; clear ht8 hl8))
      go_ret
      exact ⟨rfl, HT8.out, (((Below.lt HB.out).trans (Below.lt HB5.out)).trans HL6.out).trans (HL7.out.trans HL8.out)⟩
end
section
set_option linter.unusedVariables false
open Go.RowKit

theorem Try.info45 : (Try.prog.info? 45).map (fun i => (i.zero, i.size, i.bytes)) = some (some (.agg #[.string ⟨#[]⟩, .string ⟨#[]⟩]), 2, 32) := by kernel_rfl
def stC (M : List KV) : List Value := M.flatMap fun x => [.string (strN x.1), .string (strN x.2)]
theorem stC_cons (x : KV) (M : List KV) : stC (x :: M) = .string (strN x.1) :: .string (strN x.2) :: stC M := by simp [stC]
theorem stC_append (L M : List KV) : stC (L ++ M) = stC L ++ stC M := by simp [stC]
theorem stC_length (M : List KV) : (stC M).length = M.length * 2 := by
  induction M with
  | nil => rfl
  | cons x r ih => rw [stC_cons, List.length_cons, List.length_cons, ih, List.length_cons]; omega
theorem stC_take (L : List KV) (i : Nat) : (stC L).take (i * 2) = stC (L.take i) := by
  induction L generalizing i with
  | nil => simp [stC]
  | cons x r ih =>
    cases i with
    | zero => rfl
    | succ i => rw [stC_cons, show (i + 1) * 2 = i * 2 + 1 + 1 by omega, List.take_succ_cons, List.take_succ_cons, ih, List.take_succ_cons, stC_cons]
theorem stC_drop (L : List KV) (i : Nat) : (stC L).drop (i * 2) = stC (L.drop i) := by
  induction L generalizing i with
  | nil => simp [stC]
  | cons x r ih =>
    cases i with
    | zero => rfl
    | succ i => rw [stC_cons, show (i + 1) * 2 = i * 2 + 1 + 1 by omega, List.drop_succ_cons, List.drop_succ_cons, ih, List.drop_succ_cons]
theorem stC_get (M : List KV) (i : Nat) (h : i < M.length) : (stC M)[i * 2]? = some (.string (strN M[i].1)) ∧ (stC M)[i * 2 + 1]? = some (.string (strN M[i].2)) := by
  induction M generalizing i with
  | nil => simp at h
  | cons x r ih =>
    cases i with
    | zero => rw [stC_cons]; exact ⟨rfl, rfl⟩
    | succ i =>
      have := ih i (by simpa using h)
      rw [stC_cons, show (i + 1) * 2 = i * 2 + 1 + 1 by omega]
      simpa using this
theorem stC_one (M : List KV) : ∀ u ∈ stC M, u.oneCell' = true := by
  intro u hu
  obtain ⟨x, hx, h2⟩ := List.mem_flatMap.1 hu
  simp at h2
  rcases h2 with rfl | rfl <;> rfl
theorem stC_set (L : List KV) (i : Nat) (x : KV) (h : i < L.length) (hk : x.1 = L[i].1) : stC (L.set i x) = (stC L).set (i * 2 + 1) (.string (strN x.2)) := by
  induction L generalizing i with
  | nil => simp at h
  | cons y r ih =>
    cases i with
    | zero =>
      simp only [List.getElem_cons_zero] at hk
      rw [List.set_cons_zero, stC_cons, stC_cons, hk]
      rfl
    | succ i =>
      simp only [List.getElem_cons_succ] at hk
      rw [List.set_cons_succ, stC_cons, stC_cons, ih i (by simpa using h) hk, show (i + 1) * 2 + 1 = i * 2 + 1 + 1 + 1 by omega, List.set_cons_succ, List.set_cons_succ]
abbrev AllB (M : List KV) : Prop := ∀ x ∈ M, (∀ n ∈ x.1, n < 256) ∧ ∀ n ∈ x.2, n < 256

/-- a row of them; its block may hold more than its room -/
def RowS (w : World) (B : Nat) (v : Value) (M : List KV) : Prop :=
  (v = .slice none 0 0 ∧ M = []) ∨ ∃ g cap cur, v = .slice (some ⟨g, 0, none⟩) M.length cap ∧ B ≤ g ∧ w.heap[g]? = some (.cells cur 45 (0, 0)) ∧ M.length ≤ cap ∧ cap ≤ maxLen ∧ cap * 2 ≤ cur.size ∧ cur.toList.take (M.length * 2) = stC M
theorem RowS.shape {w : World} {B : Nat} {v : Value} {M : List KV} (h : RowS w B v M) : ∃ a cap, v = .slice a M.length cap ∧ M.length ≤ cap := by
  rcases h with ⟨rfl, rfl⟩ | ⟨g, cap, cur, rfl, -, -, h, -⟩
  · exact ⟨none, 0, rfl, Nat.le_refl _⟩
  · exact ⟨_, cap, rfl, h⟩
theorem RowS.mono {w : World} {B C : Nat} {v : Value} {M : List KV} (h : RowS w B v M) (hc : C ≤ B) : RowS w C v M := by
  rcases h with h | ⟨g, cap, cur, e, h1, r⟩
  · exact .inl h
  · exact .inr ⟨g, cap, cur, e, Nat.le_trans hc h1, r⟩
theorem RowS.below {w w' : World} {B : Nat} {v : Value} {M : List KV} (h : RowS w B v M) (hb : Below w.heap.size w w') : RowS w' B v M := by
  rcases h with h | ⟨g, cap, cur, e, h1, hh, r⟩
  · exact .inl h
  · exact .inr ⟨g, cap, cur, e, h1, (hb.block g (lt_of_block hh)).trans hh, r⟩
theorem RowS.lt' {w w' : World} {B : Nat} {v : Value} {M : List KV} (h : RowS w B v M) (hq : LT w w') : RowS w' B v M := by
  rcases h with h | ⟨g, cap, cur, e, h1, hh, r⟩
  · exact .inl h
  · exact .inr ⟨g, cap, cur, e, h1, hq.keep g _ _ _ hh (by decide) (by decide) (by decide) (by decide) (by decide) (by decide) (by decide), r⟩
theorem RowS.cells {w : World} {B : Nat} {v : Value} {M : List KV} (h : RowS w B v M) (hM : 0 < M.length) :
    ∃ g cap, v = .slice (some ⟨g, 0, none⟩) M.length cap ∧ M.length ≤ cap ∧ cap ≤ maxLen ∧ B ≤ g ∧ g < w.heap.size ∧ (∀ j u, (stC M)[j]? = some u → w.cell? ⟨g, j, none⟩ = some u) ∧ ∀ j, w.frozen? ⟨g, j, none⟩ = false := by
  rcases h with ⟨-, rfl⟩ | ⟨g, cap, cur, e, h1, hh, h2, h3, h4, h5⟩
  · simp at hM
  · refine ⟨g, cap, e, h2, h3, h1, lt_of_block hh, fun j u hj => ?_, fun j => by simp [World.frozen?, hh]⟩
    have hjl : j < M.length * 2 := by have := (List.getElem?_eq_some_iff.1 hj).1; rw [stC_length] at this; exact this
    rw [cell_of_row _ _ _ _ 45 (0, 0) hh]
    rw [← h5, List.getElem?_take_of_lt hjl] at hj
    simpa using hj
theorem RowS.at {w : World} {B : Nat} {v : Value} {M : List KV} (h : RowS w B v M) (i : Nat) (hi : i < M.length) :
    ∃ g cap, v = .slice (some ⟨g, 0, none⟩) M.length cap ∧ M.length ≤ cap ∧ w.cell? ⟨g, i * 2, none⟩ = some (.string (strN M[i].1)) ∧ w.cell? ⟨g, i * 2 + 1, none⟩ = some (.string (strN M[i].2)) ∧ ∀ j, w.frozen? ⟨g, j, none⟩ = false := by
  obtain ⟨g, cap, e, h1, -, -, -, hc, hf⟩ := h.cells (by omega)
  obtain ⟨g1, g2⟩ := stC_get M i hi
  exact ⟨g, cap, e, h1, hc _ _ g1, hc _ _ g2, hf⟩
theorem RowS.set {w : World} {B g n cap : Nat} {M : List KV} (h : RowS w B (.slice (some ⟨g, 0, none⟩) n cap) M) (i : Nat) (x : KV) (hi : i < M.length) (hk : x.1 = M[i].1) :
    RowS (w.setCell ⟨g, i * 2 + 1, none⟩ (.string (strN x.2))) B (.slice (some ⟨g, 0, none⟩) n cap) (M.set i x) := by
  rcases h with ⟨e, -⟩ | ⟨g2, cap2, cur, e, h1, hh, h2, h3, h4, h5⟩
  · cases e
  · obtain ⟨e1, rfl, rfl⟩ := Value.slice.inj e
    obtain rfl : g = g2 := by simpa using e1
    refine .inr ⟨g, cap, cur.setIfInBounds (i * 2 + 1) (.string (strN x.2)), by rw [List.length_set], h1, heap_setCell_same w g (i * 2 + 1) cur 45 _ hh, by rw [List.length_set]; exact h2, h3, by simpa using h4, ?_⟩
    rw [stC_set M i x hi hk, ← h5, List.length_set, Array.toList_setIfInBounds, List.take_set]
/-- a copy of the first few -/
theorem RowS.cut {w : World} {B n cap : Nat} {a : Option Addr} {M : List KV} (h : RowS w B (.slice a n cap) M) (i : Nat) (hi : i ≤ M.length) (hc : i = 0 → a ≠ none → 0 ≤ cap) : RowS w B (.slice a i i) (M.take i) := by
  rcases h with ⟨e, rfl⟩ | ⟨g, cap2, cur, e, h1, hh, h2, h3, h4, h5⟩
  · obtain ⟨rfl, -, -⟩ := Value.slice.inj e
    obtain rfl : i = 0 := by simpa using hi
    exact .inl ⟨rfl, rfl⟩
  · obtain ⟨rfl, -, rfl⟩ := Value.slice.inj e
    have hl : (M.take i).length = i := by rw [List.length_take]; omega
    refine .inr ⟨g, i, cur, by rw [hl], h1, hh, by omega, by omega, by omega, ?_⟩
    rw [hl, ← stC_take, ← h5, List.take_take, Nat.min_eq_left (by omega)]

/-- append onto a row that is full -/
theorem run_appS {w : World} {B : Nat} (ty : TypeId) {b0 : Option Addr} {i : Nat} {O N : List KV} (hO : RowS w B (.slice b0 i i) O) {a : Option Addr} {m c : Nat} (hm : N.length = m) (hN : m ≠ 0 → ∃ ad, a = some ad ∧ ∀ j u, (stC N)[j]? = some u → w.cell? (ad.add j) = some u) (hb : i + m ≤ 100000) (hB : B ≤ w.heap.size) :
    ∃ g cap' w', (Builtin.append_ #[38, 38] ty #[.slice b0 i i, .slice a m c]).run Try.prog w = .ok (.slice g (i + m) cap') w' ∧ RowS w' B (.slice g (i + m) cap') (O ++ N) ∧ Below w.heap.size w w' ∧ i + m ≤ cap' := by
  obtain ⟨i0, hi0, hz0, hz1, hz2⟩ := info_parts Try.info45
  have hOl : O.length = i := by
    obtain ⟨_, _, e, _⟩ := hO.shape
    obtain ⟨-, e, -⟩ := Value.slice.inj e
    exact e.symm
  by_cases h0 : m = 0
  · subst h0
    have hN0 : N = [] := List.eq_nil_of_length_eq_zero hm
    subst hN0
    refine ⟨b0, i, w, ?_, by rw [List.append_nil]; exact hO, Below.refl _ _, Nat.le_refl _⟩
    cases b0 <;> cases a <;> simp [Builtin.append_, run_underlying Try.underlying38, sizeOf, typeInfo, hi0, Builtin.lenOf, Builtin.firstCells, loadCells, loadCellsFrom, storeCells]
  · obtain ⟨ad, rfl, hc⟩ := hN h0
    have hlN : (stC N).length = m * i0.size := by rw [stC_length, hm, hz1]
    have hsrc : Src Try.prog i0.size 38 (.slice (some ad) m c) m (stC N) w := Src.ofSlice w Try.underlying38 ad m c (stC N) hlN hc (stC_one N)
    have hold : (Builtin.firstCells i0.size i (.slice b0 i i)).run Try.prog w.drew = .ok (stC O).toArray w.drew := by
      rcases hO with ⟨e, rfl⟩ | ⟨g, cap, cur, e, -, hh, h2, -, h4, h5⟩
      · obtain ⟨rfl, rfl, -⟩ := Value.slice.inj e
        exact run_firstCells_none w.drew i0.size 0 0 0
      · obtain ⟨rfl, -, rfl⟩ := Value.slice.inj e
        refine run_firstCells_some w.drew i0.size i ⟨g, 0, none⟩ i i (stC O) (by rw [stC_length, hz1, hOl]) (fun j v hj => ?_)
        have hjl : j < O.length * 2 := by have := (List.getElem?_eq_some_iff.1 hj).1; rw [stC_length] at this; exact this
        rw [Addr.add_lit, Nat.zero_add]
        show w.cell? _ = _
        rw [cell_of_row _ _ _ _ 45 (0, 0) hh]
        rw [← h5, List.getElem?_take_of_lt hjl] at hj
        simpa using hj
    have hcm : grownCap w (i + m) i 45 ≤ maxLen := grownCap_le_maxLen w (i + m) i 45 (by unfold maxLen; omega)
    refine ⟨_, _, _, run_append_grow_src w 38 38 ty 45 i0 _ Try.underlying38 hi0 hz0 b0 i i (stC O) hold _ m (stC N) hsrc (by omega) (by omega) (by rw [hz2]; exact growslice_fits (by omega) (by omega)), ?_, (Below.refl _ _).drew.alloc (Nat.le_refl _) _, grownCap_ge w (i + m) i 45⟩
    have hlen : (O ++ N).length = i + m := by rw [List.length_append, hOl, hm]
    refine .inr ⟨w.heap.size, _, _, by rw [hlen], hB, heap_alloc_new w.drew _, by rw [hlen]; exact grownCap_ge w (i + m) i 45, hcm, ?_, ?_⟩
    · have := grownCap_ge w (i + m) i 45
      have hz : (Value.agg #[.string ⟨#[]⟩, .string ⟨#[]⟩]).cells.size = 2 := rfl
      simp only [Array.size_append, List.size_toArray, List.length_append, size_zeroCells, hz, stC_length, hOl, hm]
      omega
    · rw [hlen, ← stC_append, Array.toList_append, List.toList_toArray, List.take_left' (by rw [stC_length, hlen])]

theorem bytesLess_strN (la lb : List Nat) (ha : ∀ n ∈ la, n < 256) (hb : ∀ n ∈ lb, n < 256) : Op.bytesLess (strN la).toList (strN lb).toList = decide (cmpL la lb < 0) := by
  rw [strN_toList, strN_toList]
  induction la generalizing lb with
  | nil => cases lb <;> rfl
  | cons a la ih =>
    cases lb with
    | nil => rfl
    | cons b lb =>
      have h1 := ha a (by simp)
      have h2 := hb b (by simp)
      have e1 : (UInt8.ofNat a < UInt8.ofNat b) = (a < b) := by
        simp only [UInt8.lt_iff_toNat_lt, UInt8.toNat_ofNat']
        rw [Nat.mod_eq_of_lt h1, Nat.mod_eq_of_lt h2]
      have e2 : (UInt8.ofNat a == UInt8.ofNat b) = decide (a = b) := by
        rw [Bool.eq_iff_iff, beq_iff_eq, decide_eq_true_eq]
        constructor
        · intro h
          have := congrArg UInt8.toNat h
          simp only [UInt8.toNat_ofNat'] at this
          rwa [Nat.mod_eq_of_lt h1, Nat.mod_eq_of_lt h2] at this
        · rintro rfl; rfl
      simp only [List.map_cons, Op.bytesLess]
      rw [ih lb (fun n hn => ha n (by simp [hn])) (fun n hn => hb n (by simp [hn])), e2]
      simp only [e1]
      by_cases c1 : a < b
      · have hx : cmpL (a :: la) (b :: lb) = -1 := by rw [cmpL, if_pos c1]
        simp [c1, hx]
      · by_cases c2 : b < a
        · have hx : cmpL (a :: la) (b :: lb) = 1 := by rw [cmpL, if_neg c1, if_pos c2]
          have c3 : ¬ a = b := by omega
          simp [c1, c3, hx]
        · have hx : cmpL (a :: la) (b :: lb) = cmpL la lb := by rw [cmpL, if_neg c1, if_neg c2]
          have c3 : a = b := by omega
          simp only [hx, decide_eq_true c3, decide_eq_false c1, Bool.true_and, Bool.false_or]
theorem beq_strN (la lb : List Nat) (ha : ∀ n ∈ la, n < 256) (hb : ∀ n ∈ lb, n < 256) : ((strN la).toList == (strN lb).toList) = decide (la = lb) := by
  rw [strN_toList, strN_toList, Bool.eq_iff_iff, beq_iff_eq, decide_eq_true_eq]
  exact ⟨strN_inj ha hb, fun h => by rw [h]⟩
end
section
open Go Go.RowKit

variable {F : Fence} {n : Nat} {P : Program}

/-- the loop 'for .. := range g': the caller's law -/
theorem range_w {α : Type} {g : Operand} {ps : Array Tmp} {assign body : Code} {Q : Exit → Act → World → Prop} {a : Act} {w : World}
    (hro : F.round = none) (h1 : 1 ≤ n) {gf : Nat} {lb : Array Value} (hg : a.eval g = .func (.func gf) #[] lb) (hFg : F.fn gf) (eg : ∀ args w, (callFunc gf args).run P w = .ok (.enter gf args) w)
    {E : α → World → Value → Value → Prop} {Kp : World → World → Prop} {xs : List α} {St : World → Prop} (hseq : SeqV F (n - 1) P gf lb E Kp xs St)
    (hSt : ∀ r, St ((w.alloc (.deferred (some []))).alloc (.loop r)))
    (hKt : ∀ {A B C : World}, Kp A B → Kp B C → Kp A C) (hKb : ∀ (W : World) (r r' : Loop), Book W w.heap.size r → Kp W (W.putObj (w.heap.size + 1) (.loop r'))) (hps : 2 = ps.size)
    (hE : ∀ x u v (W : World) (r r' : Loop), Book W w.heap.size r → E x W u v → E x (W.putObj (w.heap.size + 1) (.loop r')) u v)
    (I : List α → World → Prop) (Ix : Code → List α → World → Prop) (hI : OwnFrom w.heap.size I) (hIx : ∀ c, OwnFrom w.heap.size (Ix c)) (hIB : Calm I) (hIxB : ∀ c, Calm (Ix c)) (h0 : I [] w) (f : Act → Value → Value → Act)
    (hassign : ∀ (x : α) (u v : Value) (W1 : World), E x W1 u v → ∀ (W : World) (K : Act → World → Prop), K (f a u v) W →
      assign.wpIn (F.inRound (w.heap.size + 1)) (n - 1 - 1) P (Exit.then K (fun _ _ _ => False)) { tmps := (ps.zip #[u, v]).foldl (fun t (p, v) => t.setIfInBounds p v) a.tmps, defers := [] } W)
    (hbody : ∀ (pre : List α) (x : α) (rest : List α) (u v : Value) (W : World), xs = pre ++ x :: rest → E x W u v → I pre W → body.wpIn (F.inRound (w.heap.size + 1)) (n - 1 - 1) P (ownPostG w.heap.size Kp I Ix (pre ++ [x]) W) (f a u v) W)
    (hdone : ∀ (W : World), I xs W → W.heap[w.heap.size]? = some (.deferred (some [])) → Q .normal { a with defers := { target := .collected w.heap.size, args := #[] } :: a.defers } W)
    (hstop : ∀ (c : Code) (pre : List α) (W : World), pre <+: xs → Ix c pre W → W.heap[w.heap.size]? = some (.deferred (some [])) → c.wpIn F n P Q { a with defers := { target := .collected w.heap.size, args := #[] } :: a.defers } W) :
    (Code.rangeFunc g ps assign body).wpIn F n P Q a w := by
  refine wpIn_rangeFunc fun fn hfn => ?_
  rw [hro]
  obtain ⟨rec, hrec⟩ : ∃ rec : LoopState → Option Code → Loop, rec = fun st pe => { state := st, pending := pe, fn, tmps := a.tmps, params := ps, assign, body, defers := w.heap.size } := ⟨_, rfl⟩
  have hbook : Book ((w.alloc (.deferred (some []))).alloc (.loop (rec .ready none))) w.heap.size (rec .ready none) := by
    constructor
    · have := World.alloc_heap_new (w.alloc (.deferred (some []))) (.loop (rec .ready none)); rwa [World.size_alloc] at this
    · exact (Below.heap_alloc _ _ _ (by simp)).trans (World.alloc_heap_new w _)
  have hput : ∀ {J : List α → World → Prop}, OwnFrom w.heap.size J → ∀ s (W : World) (r r' : Loop), Book W w.heap.size r → J s W → J s (W.putObj (w.heap.size + 1) (.loop r')) := fun hJ s W r r' hb hs => hJ.putObj _ hs (by omega) hb.1 rfl
  refine ⟨w.heap.size + 1, [{ target := .collected w.heap.size, args := #[] }], (w.alloc (.deferred (some []))).alloc (.loop (rec .ready none)), { target := .fn (.func gf) lb, args := #[.func (.yield (w.heap.size + 1)) #[] #[]] }, (w.alloc (.deferred (some []))).alloc (.loop (rec .ready none)), gf,
    #[.func (.yield (w.heap.size + 1)) #[] #[]] ++ lb, (w.alloc (.deferred (some []))).alloc (.loop (rec .ready none)), ?_, ?_, ?_, ?_, fun _ => h1, ?_⟩
  · rw [hrec]; exact run_enterLoop_outer _ _ _ _ _
  · simp only [resolve, hg]
    simp [go_sem]
  · intro f' hf'; simp [Target.leads] at hf'; subst hf'; exact hFg
  · simp [invoke, go_sem, eg]
  · refine (hseq (w.heap.size + 1) (fun pre W => I pre W ∧ Book W w.heap.size (rec .ready none)) (fun pre W => ∃ c, Ix c pre W ∧ Book W w.heap.size (rec .done (some c))) _ (hSt _)
      (fun s A C hs hgr => ⟨hIB s A C hs.1 hgr, hs.2.calm hgr⟩) (fun s A C hs hgr => by obtain ⟨c, hc, hk⟩ := hs; exact ⟨c, hIxB c s A C hc hgr, hk.calm hgr⟩)
      (fun pre x rest u v W1 hx he hs => round_v (en := #[u, v]) (a₁ := f a u v) (E := fun W => E x W u v) rec hrec hfn hps hKt hKb (hput hI) (fun c => hput (hIx c)) (hassign x u v W1 he) (fun W r r' hb h => hE x u v W r r' hb h) (fun W hi h => hbody pre x rest u v W hx h hi) hs.1 he hs.2)
      ⟨hI.alloc _ (hI.alloc _ h0), hbook⟩).mono ?_
    rintro e W2 ⟨⟨v, rfl⟩, (⟨hi, hk⟩ | ⟨pre, hp, c, hi, hk⟩)⟩
    · exact ⟨none, _, by have := run_endLoop (P := P) hk.1 (by rw [hrec]; simp); rw [hrec] at this; exact this, hdone _ (hput hI _ _ _ _ hk hi) (hk.put _).2⟩
    · exact ⟨some c, _, by have := run_endLoop (P := P) hk.1 (by rw [hrec]; simp); rw [hrec] at this; exact this, hstop c pre _ hp (hput (hIx c) _ _ _ _ hk hi) (hk.put _).2⟩
end
section
set_option linter.unusedVariables false
open Go Go.RowKit

theorem rows_round {n l : Nat} {P : Program} {row : String} {args : Array Value} {w : World} {R : Value → World → Prop} (h : Rows P row args w R) : RowsIn (Fence.wide.inRound l) n P row args w R :=
  fun c cs _ => let ⟨v, w', r, s⟩ := h c cs; ⟨v, w', r, stepsIn_wide.2 s⟩

theorem oper_round {n l : Nat} {P : Program} {o : Oper} {a : Act} {w : World} {K K' : Act → World → Prop} {Q : Exit → Act → World → Prop} (hQ : ¬ LetsOut Q) (hd : ∀ c, o.op ≠ .defer c) (hK : ∀ a w, K a w → K' a w)
    (h : o.wp P a w K Q ∨ (o.asks P a w ∧ LetsOut Q)) : o.wpIn (Fence.wide.inRound l) n P a w K' Q := by
  rcases h with h | h
  · refine ⟨fun _ _ => trivial, ?_⟩
    have e : o.semAt (Fence.wide.inRound l).round a.eval = execOp a.eval o := Oper.semAt_some l _ _ hd
    rw [e]
    unfold Oper.wp at h
    generalize (execOp a.eval o).run P w = r at *
    have hdep : (Fence.wide.inRound l).depth.isSome = true → 1 ≤ n := fun h => by cases h
    cases r with
    | ok x w' =>
      cases x with
      | value v => exact hK _ _ h
      | skip => exact hK _ _ h
      | defer d => exact hK _ _ h
      | enter f args =>
        refine ⟨hdep, CallsIn.inRound l (callsIn_wide.2 (Calls.mono h ?_))⟩
        intro e w'' he
        cases e with
        | returned v => exact hK _ _ he
        | panicked c => exact he
        | outgrown => exact he
      | row r args => exact ⟨hdep, rows_round (Rows.mono h fun v w'' he => hK _ _ he)⟩
      | _ => exact h.elim
    | halt x w' =>
      cases x <;> first | exact h | exact h.elim
  · exact absurd h.2 hQ

theorem any_round {n l : Nat} {P : Program} {md : Region.Mode} {ops : Array Oper} {Q : Exit → Act → World → Prop} (hQ : ¬ LetsOut Q) (hd : ∀ (i : Nat) (o : Oper), ops[i]? = some o → ∀ c, o.op ≠ .defer c) :
    ∀ (fuel : Nat) (listed : Array Bool) (a : Act) (w : World), wpAny P md ops Q fuel listed a w → wpAnyIn (Fence.wide.inRound l) n P md ops Q fuel listed a w
  | 0, listed, a, w, h => h
  | fuel + 1, listed, a, w, h => by
    refine ⟨h.1, fun i hi => ?_⟩
    have h2 := h.2 i hi
    unfold wpOp at h2
    unfold wpOpIn
    cases ho : ops[i]? with
    | none =>
      rw [ho] at h2
      exact any_round hQ hd fuel _ a w h2
    | some o =>
      rw [ho] at h2
      simp only at h2 ⊢
      split
      · rename_i hw
        rw [if_pos hw] at h2
        exact oper_round hQ (hd i o ho) (fun a w hh => any_round hQ hd fuel _ a w hh) h2
      · rename_i hw
        rw [if_neg hw] at h2
        exact ⟨fun _ _ => trivial, any_round hQ hd fuel _ _ w h2⟩

theorem region_round {n l id : Nat} {P : Program} {ops : Array Oper} {Q : Exit → Act → World → Prop} {a : Act} {w : World} (hm : P.follows .mixedOrders = true) (hQ : ¬ LetsOut Q)
    (hd : ∀ (i : Nat) (o : Oper), ops[i]? = some o → ∀ c, o.op ≠ .defer c) (h : wpAny P .any ops Q ops.size (Array.replicate ops.size false) a w.drew) : (Code.region id ops true).wpIn (Fence.wide.inRound l) n P Q a w :=
  wpIn_region_any hm (any_round hQ hd _ _ _ _ h)
/-- no operation of the region defers -/
def noDefer (ops : Array Oper) : Bool := ops.toList.all fun o => match o.op with | .defer _ => false | _ => true
theorem noDefer_at {ops : Array Oper} (h : noDefer ops = true) (i : Nat) (o : Oper) (ho : ops[i]? = some o) (c : Call) : o.op ≠ .defer c := by
  intro e
  have h1 := List.all_eq_true.1 h o (Array.mem_toList_iff.2 (Array.mem_of_getElem? ho))
  rw [e] at h1
  cases h1
theorem region_roundH {n l id : Nat} {P : Program} {ops : Array Oper} {Q : Exit → Act → World → Prop} {a : Act} {w : World} (S : World → Prop) (hm : P.follows .mixedOrders = true) (hQ : ¬ LetsOut Q)
    (hd : noDefer ops = true) (hS : S w.drew) (h : S w.drew → wpAnyH P .any ops Q S ops.size (Array.replicate ops.size false) a w.drew) : (Code.region id ops true).wpIn (Fence.wide.inRound l) n P Q a w :=
  region_round hm hQ (noDefer_at hd) (wpAny_of_held _ _ _ _ (h hS))
end
end Go.Proofs.Ytmnbkhgogogeiaa
