/-
  Several texts of one proof, each in a section of its own: May, DoG, DoE.
-/
import Derived.Test.YtmnbkhgogogeiaaRg17
import Derived.Test.YtmnbkhgogogeiaaRg19
import Derived.Test.YtmnbkhgogogeiaaApplGRg
namespace Go.Proofs.Ytmnbkhgogogeiaa
section
set_option linter.unusedVariables false
open Go.RowKit

theorem ChgV.at {w : World} {v : Value} {C : List Chg} (h : ChgV w v C) (k : Nat) (hk : k < C.length) :
    ∃ g off cap ka kc va vc, v = .slice (some ⟨g, off, none⟩) C.length cap ∧ C.length ≤ cap ∧ w.cell? ⟨g, off + k * 3, none⟩ = some (.slice ka C[k].key.length kc) ∧ w.cell? ⟨g, off + k * 3 + 1, none⟩ = some (.slice va C[k].val.length vc) ∧ w.cell? ⟨g, off + k * 3 + 2, none⟩ = some (.bool C[k].drop) ∧
      RowB w (.slice ka C[k].key.length kc) C[k].key ∧ RowB w (.slice va C[k].val.length vc) C[k].val := by
  obtain ⟨a, cap, rfl, h1, h2, h3⟩ := h
  rcases h3 with h3 | ⟨g, off, rfl, hc⟩
  · rw [h3] at hk; simp at hk
  · obtain ⟨ka, kl, kc, va, vl, vc, c0, c1, c2, r1, r2⟩ := hc k hk
    have hkl : C[k].key.length = kl := by obtain ⟨_, _, _, e, h, _⟩ := r1; obtain ⟨-, rfl, -⟩ := Value.slice.inj e; exact h
    have hvl : C[k].val.length = vl := by obtain ⟨_, _, _, e, h, _⟩ := r2; obtain ⟨-, rfl, -⟩ := Value.slice.inj e; exact h
    subst hkl
    subst hvl
    exact ⟨g, off, cap, ka, kc, va, vc, rfl, h1, c0, c1, c2, r1, r2⟩
/-- how many bytes changes count for room -/
def weighL (C : List Chg) : Nat := (C.map fun c => c.key.length + c.val.length + 64).sum
theorem weighL_eq (C : List Chg) : weighL C = weigh C + 64 * C.length := by
  induction C with
  | nil => rfl
  | cons c C ih =>
    have h1 : weighL (c :: C) = c.key.length + c.val.length + 64 + weighL C := by simp [weighL]
    have h2 : weigh (c :: C) = c.key.length + c.val.length + weigh C := by simp [weigh]
    rw [h1, h2, ih]
    simp
    omega
theorem weigh_step (C : List Chg) (k : Nat) (h : k < C.length) : weigh (C.take (k + 1)) = weigh (C.take k) + C[k].key.length + C[k].val.length := by
  rw [List.take_succ_eq_append_getElem h, weigh_append]
  simp [weigh]
  omega
theorem weigh_le (C : List Chg) (M : Nat) (h : ∀ c ∈ C, c.key.length ≤ M ∧ c.val.length ≤ M) : weigh C ≤ C.length * (2 * M) := by
  induction C with
  | nil => simp [weigh]
  | cons c C ih =>
    have h2 : weigh (c :: C) = c.key.length + c.val.length + weigh C := by simp [weigh]
    have h3 := ih fun d hd => h d (by simp [hd])
    have h4 := h c (by simp)
    rw [h2, List.length_cons, Nat.add_mul]
    omega
theorem take_mem_le {C : List Chg} {M : Nat} (h : ∀ c ∈ C, c.key.length ≤ M ∧ c.val.length ≤ M) (k : Nat) : weigh (C.take k) ≤ C.length * (2 * M) := by
  refine Nat.le_trans (weigh_le (C.take k) M fun c hc => h c (List.mem_of_mem_take hc)) ?_
  exact Nat.mul_le_mul_right _ (by simp; omega)
theorem wrap_ok (x : Int) (h0 : -9223372036854775808 ≤ x) (h1 : x ≤ 9223372036854775807) : IntKind.i64.wrap x = x := by rw [IntKind.wrap_i64]; omega
abbrev badK (c : Chg) : Prop := c.key.length = 0 ∨ 64 < c.key.length
def mayP (C : List Chg) : Nat := if ∃ c ∈ C, badK c then 1 else if 61440 < weigh C then 10 else 0

set_option maxRecDepth 100000 in
set_option maxHeartbeats 4000000 in
theorem weight_any {w : World} {v : Value} {C : List Chg} (hv : ChgV w v C) (hC : C.length ≤ 60) (hlen : ∀ c ∈ C, c.key.length ≤ 281474976710656 ∧ c.val.length ≤ 281474976710656) :
    Calls Try.prog 10 #[v] w fun e w' => e = .returned (.int .i64 (weighL C : Nat)) ∧ Below w.heap.size w w' := by
  obtain ⟨a, cap, rfl, h1, h2, -⟩ := id hv
  have HV := Lib.hid hv
  have HL := Lib.hid (And.intro hC (take_mem_le hlen))
  have hcl : (C.length : Int) ≤ 60 := by omega
  clear hv h1 h2 hlen
  go_enter Try.func10, Try.ntmps10
  go_wp2_with fail
  go_loopw [4, 3] (fun i z wr => ∃ k : Nat, k ≤ C.length ∧ i = .int .i64 (k : Nat) ∧ z = .int .i64 (weigh (C.take k) + 64 * k : Nat) ∧ Below w.heap.size w wr) (fun i _ _ => C.length - (RowKit.intOf i).toNat)
  case atStart => exact ⟨0, Nat.zero_le _, rfl, rfl, Below.refl _ _⟩
  case round =>
    obtain ⟨k, hk, rfl, rfl, hb⟩ := hrel
    have HB := Lib.hid hb
    by_cases hkn : k < C.length
    · have hkz : (k : Int) < (C.length : Int) := by omega
      obtain ⟨g, off, cap2, ka, kc, va, vc, e, hcap, c0, c1, -, -, -⟩ := (HV.out.below hb).at k hkn
      obtain ⟨rfl, -, rfl⟩ := Value.slice.inj e
      have hb1 := HL.out.2 k
      have hb2 := HL.out.2 (k + 1)
      have hst := weigh_step C k hkn
      have HNX : Hid (weigh (C.take (k + 1)) + 64 * (k + 1) = weigh (C.take k) + 64 * k + C[k].key.length + C[k].val.length + 64) := Lib.hid (by omega)
      obtain ⟨m, hm⟩ : ∃ m, weigh (C.take k) + 64 * k = m := ⟨_, rfl⟩
      have hmb : m + C[k].key.length + C[k].val.length + 64 ≤ 281474976710656000 := by have := HL.out.1; omega
      rw [hm] at HNX
      rw [hm]
      clear hb1 hb2 hst hm hcap e
      generalize C[k].key.length = kl at *
      generalize C[k].val.length = vl at *
      have hq1 : (0 : Int) ≤ (m : Int) + (kl : Int) := by omega
      have hq2 : (m : Int) + (kl : Int) + (vl : Int) + 64 ≤ 281474976710656000 := by omega
      have HKN := Lib.hid hkn
      have w1 : IntKind.i64.wrap ((m : Int) + (kl : Int)) = (m : Int) + (kl : Int) := wrap_ok _ (by omega) (by omega)
      have w2 : IntKind.i64.wrap ((m : Int) + (kl : Int) + (vl : Int)) = (m : Int) + (kl : Int) + (vl : Int) := wrap_ok _ (by omega) (by omega)
      have w3 : IntKind.i64.wrap ((m : Int) + (kl : Int) + (vl : Int) + 64) = (m : Int) + (kl : Int) + (vl : Int) + 64 := wrap_ok _ (by omega) (by omega)
      clear hmb
      go_wp2_with go_region
      go_roundw
      case rel => exact ⟨k + 1, HKN.out, by go_num, by rw [HNX.out]; go_num, by first | exact HB.out | exact HB.out.drew | exact below_drewN HB.out _⟩
      case measure => simp [intOf]; omega
    · obtain rfl : k = C.length := by omega
      rw [List.take_length]
      have HWL : Hid (weighL C = weigh C + 64 * C.length) := Lib.hid (weighL_eq C)
      obtain ⟨q, hq⟩ : ∃ q, weigh C + 64 * C.length = q := ⟨_, rfl⟩
      rw [hq] at HWL
      rw [hq]
      clear hb hq
      go_wp2_with fail
      go_ret
      exact ⟨by rw [HWL.out]; rfl, HB.out⟩

set_option maxRecDepth 100000 in
set_option maxHeartbeats 4000000 in
theorem may_any {w : World} {v : Value} {C : List Chg} (hv : ChgV w v C) (hC : C.length ≤ 60) (hlen : ∀ c ∈ C, c.key.length ≤ 281474976710656 ∧ c.val.length ≤ 281474976710656) :
    Calls Try.prog 14 #[v] w fun e w' => e = .returned (.int .i64 (mayP C : Nat)) ∧ Below w.heap.size w w' := by
  obtain ⟨a, cap, rfl, h1, h2, -⟩ := id hv
  have HV := Lib.hid hv
  have HL := Lib.hid (And.intro hC (take_mem_le hlen))
  have hcl : (C.length : Int) ≤ 60 := by omega
  clear hv h1 h2 hlen
  go_enter Try.func14, Try.ntmps14
  go_wp2_with fail
  go_loopw [5, 3] (fun i z wr => ∃ k : Nat, k ≤ C.length ∧ i = .int .i64 (k : Nat) ∧ z = .int .i64 (weigh (C.take k) : Nat) ∧ Below w.heap.size w wr ∧ ∀ c ∈ C.take k, ¬ badK c) (fun i _ _ => C.length - (RowKit.intOf i).toNat)
  case atStart => exact ⟨0, Nat.zero_le _, rfl, rfl, Below.refl _ _, by simp⟩
  case round =>
    obtain ⟨k, hk, rfl, rfl, hb, hgood⟩ := hrel
    have HB := Lib.hid hb
    have HG := Lib.hid hgood
    clear hgood
    by_cases hkn : k < C.length
    · have hkz : (k : Int) < (C.length : Int) := by omega
      obtain ⟨g, off, cap2, ka, kc, va, vc, e, hcap, c0, c1, -, -, -⟩ := (HV.out.below hb).at k hkn
      obtain ⟨rfl, -, rfl⟩ := Value.slice.inj e
      by_cases hbad : badK C[k]
      · have HF : Hid (mayP C = 1) := Lib.hid (by unfold mayP; rw [if_pos ⟨C[k], List.getElem_mem hkn, hbad⟩])
        unfold badK at hbad
        generalize C[k].key.length = kl at *
        generalize C[k].val.length = vl at *
        clear hcap e
        rcases hbad with h0 | h0
        · subst h0
          go_wp2_with fail
          go_ret
          exact ⟨by rw [HF.out]; rfl, HB.out⟩
        · have g1 : ¬ (kl : Int) = 0 := by omega
          have g2 : (64 : Int) < (kl : Int) := by omega
          have g3 : ((kl : Int) == 0) = false := beq_false_of_ne g1
          have g4 : decide ((64 : Int) < (kl : Int)) = true := decide_eq_true g2
          go_wp2_with fail
          go_ret
          exact ⟨by rw [HF.out]; rfl, HB.out⟩
      · have HNG : Hid (∀ c ∈ C.take (k + 1), ¬ badK c) := Lib.hid (by
          intro c hc
          rw [List.take_succ_eq_append_getElem hkn] at hc
          rcases List.mem_append.1 hc with h | h
          · exact HG.out c h
          · obtain rfl := List.mem_singleton.1 h
            exact hbad)
        have hb1 := HL.out.2 (k + 1)
        have hst := weigh_step C k hkn
        obtain ⟨m, hm⟩ : ∃ m, weigh (C.take k) = m := ⟨_, rfl⟩
        rw [hm] at hst
        rw [hm]
        have hmb : m + C[k].key.length + C[k].val.length ≤ 281474976710656000 := by have := HL.out.1; omega
        have HNX := Lib.hid hst
        have g1 : ¬ (C[k].key.length : Int) = 0 := by unfold badK at hbad; omega
        have g2 : ¬ (64 : Int) < (C[k].key.length : Int) := by unfold badK at hbad; omega
        clear hb1 hst hm hcap e hbad
        generalize C[k].key.length = kl at *
        generalize C[k].val.length = vl at *
        have hq1 : (0 : Int) ≤ (m : Int) + (kl : Int) := by omega
        have hq2 : (m : Int) + (kl : Int) + (vl : Int) ≤ 281474976710656000 := by omega
        have g3 : ((kl : Int) == 0) = false := beq_false_of_ne g1
        have g4 : decide ((64 : Int) < (kl : Int)) = false := decide_eq_false g2
        have HKN := Lib.hid hkn
        have w1 : IntKind.i64.wrap ((m : Int) + (kl : Int)) = (m : Int) + (kl : Int) := wrap_ok _ (by omega) (by omega)
        have w2 : IntKind.i64.wrap ((m : Int) + (kl : Int) + (vl : Int)) = (m : Int) + (kl : Int) + (vl : Int) := wrap_ok _ (by omega) (by omega)
        clear hmb
        go_wp2_with go_region
        go_roundw
        case rel => exact ⟨k + 1, HKN.out, by go_num, by rw [HNX.out]; go_num, by first | exact HB.out | exact HB.out.drew | exact below_drewN HB.out _, HNG.out⟩
        case measure => simp [intOf]; omega
    · obtain rfl : k = C.length := by omega
      have HNB : Hid (¬ ∃ c ∈ C, badK c) := Lib.hid (by
        rintro ⟨c, hc, hbad⟩
        exact HG.out c (by rw [List.take_length]; exact hc) hbad)
      rw [List.take_length]
      have hg4 : ¬ (400 : Int) < (C.length : Int) := by omega
      have hg5 : decide ((400 : Int) < (C.length : Int)) = false := decide_eq_false hg4
      by_cases hw : 61440 < weigh C
      · have HF : Hid (mayP C = 10) := Lib.hid (by unfold mayP; rw [if_neg HNB.out, if_pos hw])
        have hwz : (61440 : Int) < (weigh C : Int) := by omega
        have hwd : decide ((61440 : Int) < (weigh C : Int)) = true := decide_eq_true hwz
        generalize weigh C = q at *
        clear hb
        go_wp2_with fail
        go_ret
        exact ⟨by rw [HF.out]; rfl, HB.out⟩
      · have HF : Hid (mayP C = 0) := Lib.hid (by unfold mayP; rw [if_neg HNB.out, if_neg hw])
        have hwz : ¬ (61440 : Int) < (weigh C : Int) := by omega
        have hwd : decide ((61440 : Int) < (weigh C : Int)) = false := decide_eq_false hwz
        generalize weigh C = q at *
        clear hb
        go_wp2_with fail
        go_ret
        exact ⟨by rw [HF.out]; rfl, HB.out⟩
end
section
set_option linter.unusedVariables false
open Go.RowKit

theorem Tb.up {B : Nat} {w0 w : World} {pt pl pd : Nat} {kv : Value} {ring u u' sec : Nat} {P : List KV} (h : Tb B w0 w pt pl pd kv ring u sec P) (hu : u ≤ u') (hf : u' ≤ 65534) : Tb B w0 w pt pl pd kv ring u' sec P := by
  obtain ⟨⟨s, S, W, hl, h1, h2, h3, h4, h5, h6⟩, ⟨cost, pv, L, ht, hc, hr, hm⟩, hB, hfu⟩ := h
  exact ⟨⟨s, S, W, hl, h1, h2, by omega, by omega, by omega, by omega⟩, ⟨cost, pv, L, ht, by omega, hr, hm⟩, hB, hf⟩
theorem weigh_own (C : List Chg) : weigh (C.map Chg.own) ≤ weigh C := by
  induction C with
  | nil => exact Nat.le_refl _
  | cons c C ih =>
    have h1 : weigh ((c :: C).map Chg.own) = c.own.key.length + c.own.val.length + weigh (C.map Chg.own) := by simp [weigh]
    have h2 : weigh (c :: C) = c.key.length + c.val.length + weigh C := by simp [weigh]
    have h3 : c.own.val.length ≤ c.val.length := by unfold Chg.own; simp only; split <;> simp
    have h4 : c.own.key.length = c.key.length := rfl
    omega
set_option maxRecDepth 100000 in
set_option maxHeartbeats 4000000 in
theorem do_ok {B : Nat} {w0 w : World} {pt pl pd : Nat} {kv : Value} {ring u sec : Nat} {P : List (List Nat × List Nat)} (h : Tb B w0 w pt pl pd kv ring u sec P) {v : Value} {C : List Chg} (hv : ChgV w v C) (hC0 : 0 < C.length) (hC : C.length ≤ 60) (hw : weigh C ≤ 61440) (hkey : ∀ c ∈ C, 0 < c.key.length ∧ c.key.length ≤ 64)
    (hB : B ≤ w.heap.size) (N : Nat) (hN : 16 + 27 * C.length + weigh C = N) (hroom : u + cellsN N ≤ ring) (hring : ring ≤ 65534) (hP : P.length ≤ 5000) (hS : SortP P) :
    Calls Try.prog 12 #[.pointer (some ⟨pt, 0, none⟩), v] w fun e w' => e = .returned (.int .i64 0) ∧ Tb B w0 w' pt pl pd kv ring (u + cellsN N) sec (doneP P C) ∧ LT w w' := by
  obtain ⟨a, cap, rfl, h1, h2, -⟩ := id hv
  have HV := Lib.hid hv
  have HT := Lib.hid h
  have HNO : Hid (Calls Try.prog 31 #[.pointer (some ⟨pt, 0, none⟩)] w fun e w' => e = .returned (.bool false) ∧ w = w') := Lib.hid (by
    obtain ⟨_, ⟨cost, pv, L, ht, _⟩, _⟩ := h
    exact ht.none)
  have HC := Lib.hid (And.intro hC0 (And.intro hC (And.intro hw (And.intro hkey (And.intro hB (And.intro hN (And.intro hroom (And.intro hring (And.intro hP hS)))))))))
  have hcl : (C.length : Int) ≤ 60 := by omega
  have hc0 : ¬ (C.length : Int) = 0 := by omega
  have hwz : (weigh C : Int) ≤ 61440 := by omega
  clear h1 h2 hv h hC0 hC hw hkey hB hN hroom hring hP hS
  go_enter Try.func12, Try.ntmps12
  go_wp2_with (first | (go_at_call 31; refine HNO.out.mono ?_; rintro e w' ⟨rfl, rfl⟩))
  go_loopw [15, 5] (fun i z wr => ∃ k : Nat, k ≤ C.length ∧ i = .int .i64 (k : Nat) ∧ z = .int .i64 (weigh (C.take k) : Nat) ∧ Below w.heap.size w wr) (fun i _ _ => C.length - (RowKit.intOf i).toNat)
  case atStart => exact ⟨0, Nat.zero_le _, rfl, rfl, Below.refl _ _⟩
  case round =>
    obtain ⟨k, hk, rfl, rfl, hb⟩ := hrel
    have HB := Lib.hid hb
    by_cases hkn : k < C.length
    · have hkz : (k : Int) < (C.length : Int) := by omega
      obtain ⟨a2, cap2, e, -, -, h3⟩ := HV.out.below hb
      obtain ⟨rfl, -, rfl⟩ := Value.slice.inj e
      obtain ⟨g, off, rfl, hcell⟩ : ∃ g off, a = some ⟨g, off, none⟩ ∧ ∀ i (h : i < C.length), ∃ ka kl kc va vl vc,
          wr.cell? ⟨g, off + i * 3, none⟩ = some (.slice ka kl kc) ∧ wr.cell? ⟨g, off + i * 3 + 1, none⟩ = some (.slice va vl vc) ∧ wr.cell? ⟨g, off + i * 3 + 2, none⟩ = some (.bool C[i].drop) ∧ RowB wr (.slice ka kl kc) C[i].key ∧ RowB wr (.slice va vl vc) C[i].val := by
        rcases h3 with h3 | h3
        · rw [h3] at hkn; simp at hkn
        · exact h3
      obtain ⟨ka, kl, kc, va, vl, vc, c0, c1, c2, r1, r2⟩ := hcell k hkn
      have hkl : C[k].key.length = kl := by obtain ⟨_, _, _, e, h, _⟩ := r1; obtain ⟨-, rfl, -⟩ := Value.slice.inj e; exact h
      have hvl : C[k].val.length = vl := by obtain ⟨_, _, _, e, h, _⟩ := r2; obtain ⟨-, rfl, -⟩ := Value.slice.inj e; exact h
      obtain ⟨m, hm⟩ : ∃ m, weigh (C.take k) = m := ⟨_, rfl⟩
      have HNX : Hid (weigh (C.take (k + 1)) = m + (kl + vl)) := Lib.hid (by
        rw [List.take_succ_eq_append_getElem hkn, weigh_append, hm]
        simp [weigh, hkl, hvl])
      have hkk := HC.out.2.2.2.1 _ (List.getElem_mem hkn)
      rw [hkl] at hkk
      have hdw : m + (kl + vl) ≤ 61440 := by
        have h1 := weigh_at C k hkn
        rw [hm, hkl, hvl] at h1
        have := HC.out.2.2.1
        omega
      have g1 : ¬ (kl : Int) = 0 := by omega
      have g2 : ¬ (64 : Int) < (kl : Int) := by omega
      have g3 : (m : Int) + ((kl : Int) + (vl : Int)) ≤ 61440 := by omega
      have g4 : decide ((64 : Int) < (kl : Int)) = false := decide_eq_false g2
      have g5 : ((kl : Int) == 0) = false := by simp; omega
      have HKN := Lib.hid hkn
      generalize C[k].drop = dd at *
      rw [hm]
      clear h3 hcell e r1 r2 hkl hvl hm hkk hdw hb
      go_upto_region 7 with (fail)
      have HX5 := Lib.hid (heap_alloc_new wr (.cells #[.slice ka kl kc, .slice va vl vc, .bool dd] 35))
      have HB5 : Hid (Below w.heap.size w (wr.alloc (.cells #[.slice ka kl kc, .slice va vl vc, .bool dd] 35))) := Lib.hid (HB.out.alloc HB.out.size _)
      clear c0 c1 c2
      generalize wr.alloc (.cells #[.slice ka kl kc, .slice va vl vc, .bool dd] 35) = w5 at *
      generalize wr.heap.size = b5 at *
      have x0 := cell_of_row w5 b5 0 _ _ _ HX5.out
      have x1 := cell_of_row w5 b5 1 _ _ _ HX5.out
      simp only [List.getElem?_toArray, List.getElem?_cons_zero, List.getElem?_cons_succ] at x0 x1
      go_wp2_with fail
      go_roundw
      case rel => exact ⟨k + 1, HKN.out, by go_num, by rw [HNX.out]; go_num, HB5.out⟩
      case measure => simp [intOf]; omega
    · obtain rfl : k = C.length := by omega
      rw [List.take_length]
      obtain ⟨hC0, hC, hw, hkey, hB, hN, hroom, hring, hP, hS⟩ := HC.out
      have hlen : ∀ c ∈ C, c.key.length ≤ 1000000 ∧ c.val.length ≤ 1000000 := by
        intro c hc
        obtain ⟨j, hj, rfl⟩ := List.getElem_of_mem hc
        have := weigh_at C j hj
        omega
      have HCP := Lib.hid (copies_any (HV.out.below hb) (by omega) hlen)
      have HTB := Lib.hid (HT.out.below hb)
      have HWB : Hid (B ≤ wr.heap.size) := Lib.hid (Nat.le_trans hB hb.size)
      obtain ⟨wt, hwt⟩ : ∃ x, weigh C = x := ⟨_, rfl⟩
      rw [hwt]
      rw [hwt] at hwz
      have hgt : ¬ (61440 : Int) < (wt : Int) := by omega
      have hgd : decide ((61440 : Int) < (wt : Int)) = false := decide_eq_false hgt
      have hg4 : ¬ (400 : Int) < (C.length : Int) := by omega
      clear hb hC0 hC hw hkey hB hN hroom hring hP hS hlen hwt
      go_upto_region 16 with (first | (go_at_call 33; refine HCP.out.mono ?_; rintro e w5 ⟨o5, L, rfl, hcr, hlm, hb5⟩; have HCR := Lib.hid hcr; have HLM := Lib.hid hlm; have HB5 := Lib.hid hb5; clear hcr hlm hb5))
      have HOW : Hid (L.map Ch.of = C.map Chg.own) := HLM
      have hwo : weigh (C.map Chg.own) ≤ weigh C := weigh_own C
      obtain ⟨oa, oc, rfl⟩ := own_shape HCR.out.row
      have hco : cellsN (16 + 27 * (C.map Chg.own).length + weigh (C.map Chg.own)) ≤ cellsN N := cellsN_mono (by have := HC.out.2.2.2.2.2.1; rw [List.length_map]; omega)
      have HWR := Lib.hid (twrite_any (HTB.out.below HB5.out) (C := C.map Chg.own) (by rw [← HOW.out]; exact HCR.out.chgV) (by rw [List.length_map]; exact HC.out.2.1) (Nat.le_trans hwo HC.out.2.2.1) _ rfl (by have := HC.out.2.2.2.2.2.2.1; omega) HC.out.2.2.2.2.2.2.2.1)
      have HLE := Lib.hid (Nat.add_le_add_left hco u)
      clear hco hwo
      generalize u + cellsN (16 + 27 * (C.map Chg.own).length + weigh (C.map Chg.own)) = u2 at *
      go_upto_region 19 with (first | (go_at_call 34; refine HWR.out.mono ?_; rintro e w6 ⟨rfl, ht6, hl6⟩; have HT6 := Lib.hid ht6; have HL6 := Lib.hid hl6; clear ht6 hl6))
      have HT6b := Lib.hid HT6.out
      obtain ⟨st6, ⟨cost6, pv6, L6, htv6, -⟩, -⟩ := HT6.out
      obtain ⟨t0, -, -, -⟩ := htv6.cells
      clear st6 htv6
      have HSY := Lib.hid (sync_t HT6b.out)
      go_upto_region 22 with (first | (go_at_call 32; refine HSY.out.mono ?_; rintro e w7 ⟨rfl, ht7, hl7⟩; have HT7 := Lib.hid ht7; have HL7 := Lib.hid hl7; clear ht7 hl7))
      have hLC : L.length = C.length := by have := congrArg List.length HOW.out; simpa using this
      have HAP := Lib.hid (apply_any HT7.out HC.out.2.2.2.2.2.2.2.2.2 (L := L) ((((HCR.out.lt HL6.out).lt HL7.out).mono HWB.out)) (Nat.le_trans HWB.out (Nat.le_trans HB5.out.size (Nat.le_trans HL6.out.size HL7.out.size))) (by have := HC.out; omega))
      have hfin : doneP P (L.map Ch.of) = doneP P C := by rw [HOW.out, doneP_own]
      rw [hfin] at HAP
      clear t0 hLC hfin
      go_wp2_with (first | (go_at_call 29; refine HAP.out.mono ?_; rintro e w8 ⟨rfl, ht8, hl8⟩; have HT8 := Lib.hid ht8; have HL8 := Lib.hid hl8; clear ht8 hl8))
      go_ret
      exact ⟨rfl, HT8.out.up HLE.out (by have := HC.out; omega), (((Below.lt HB.out).trans (Below.lt HB5.out)).trans HL6.out).trans (HL7.out.trans HL8.out)⟩
end
section
set_option linter.unusedVariables false
open Go.RowKit

set_option maxRecDepth 100000 in
set_option maxHeartbeats 4000000 in
theorem do_err {B : Nat} {w0 w : World} {pt pl pd : Nat} {kv : Value} {ring u sec : Nat} {P : List KV} (h : Tb B w0 w pt pl pd kv ring u sec P) {v : Value} {C : List Chg} (hv : ChgV w v C) (hC : C.length ≤ 60) (hlen : ∀ c ∈ C, c.key.length ≤ 281474976710656 ∧ c.val.length ≤ 281474976710656) (hm : mayP C ≠ 0) :
    Calls Try.prog 12 #[.pointer (some ⟨pt, 0, none⟩), v] w fun e w' => e = .returned (.int .i64 (mayP C : Nat)) ∧ Below w.heap.size w w' := by
  obtain ⟨a, cap, rfl, h1, h2, -⟩ := id hv
  have HV := Lib.hid hv
  have HNO : Hid (Calls Try.prog 31 #[.pointer (some ⟨pt, 0, none⟩)] w fun e w' => e = .returned (.bool false) ∧ w = w') := Lib.hid (by
    obtain ⟨_, ⟨cost, pv, L, ht, _⟩, _⟩ := h
    exact ht.none)
  have HL := Lib.hid (And.intro hC (And.intro (take_mem_le hlen) hm))
  have hcl : (C.length : Int) ≤ 60 := by omega
  clear h1 h2 hv h hlen hm
  go_enter Try.func12, Try.ntmps12
  go_wp2_with (first | (go_at_call 31; refine HNO.out.mono ?_; rintro e w' ⟨rfl, rfl⟩))
  go_loopw [15, 5] (fun i z wr => ∃ k : Nat, k ≤ C.length ∧ i = .int .i64 (k : Nat) ∧ z = .int .i64 (weigh (C.take k) : Nat) ∧ Below w.heap.size w wr ∧ ∀ c ∈ C.take k, ¬ badK c) (fun i _ _ => C.length - (RowKit.intOf i).toNat)
  case atStart => exact ⟨0, Nat.zero_le _, rfl, rfl, Below.refl _ _, by simp⟩
  case round =>
    obtain ⟨k, hk, rfl, rfl, hb, hgood⟩ := hrel
    have HB := Lib.hid hb
    have HG := Lib.hid hgood
    clear hgood
    by_cases hkn : k < C.length
    · have hkz : (k : Int) < (C.length : Int) := by omega
      obtain ⟨g, off, cap2, ka, kc, va, vc, e, hcap, c0, c1, c2, -, -⟩ := (HV.out.below hb).at k hkn
      obtain ⟨rfl, -, rfl⟩ := Value.slice.inj e
      have HBD : Hid (badK C[k] ∨ ¬ badK C[k]) := Lib.hid (Classical.em _)
      have HF : Hid (badK C[k] → mayP C = 1) := Lib.hid (fun hbad => by unfold mayP; rw [if_pos ⟨C[k], List.getElem_mem hkn, hbad⟩])
      have HNG : Hid (¬ badK C[k] → ∀ c ∈ C.take (k + 1), ¬ badK c) := Lib.hid (by
        intro hbad c hc
        rw [List.take_succ_eq_append_getElem hkn] at hc
        rcases List.mem_append.1 hc with h | h
        · exact HG.out c h
        · obtain rfl := List.mem_singleton.1 h
          exact hbad)
      have hb1 := HL.out.2.1 (k + 1)
      have hst := weigh_step C k hkn
      obtain ⟨m, hm⟩ : ∃ m, weigh (C.take k) = m := ⟨_, rfl⟩
      rw [hm] at hst
      rw [hm]
      have hmb : m + C[k].key.length + C[k].val.length ≤ 281474976710656000 := by have := HL.out.1; omega
      have HNX := Lib.hid hst
      unfold badK at HBD HF HNG
      clear hb1 hst hm hcap e hb
      generalize C[k].key.length = kl at *
      generalize C[k].val.length = vl at *
      generalize C[k].drop = dd at *
      have HMB := Lib.hid hmb
      clear hmb
      have HKN := Lib.hid hkn
      go_upto_region 7 with (fail)
      have HX5 := Lib.hid (heap_alloc_new wr (.cells #[.slice ka kl kc, .slice va vl vc, .bool dd] 35))
      have HB5 : Hid (Below w.heap.size w (wr.alloc (.cells #[.slice ka kl kc, .slice va vl vc, .bool dd] 35))) := Lib.hid (HB.out.alloc HB.out.size _)
      clear c0 c1 c2
      generalize wr.alloc (.cells #[.slice ka kl kc, .slice va vl vc, .bool dd] 35) = w5 at *
      generalize wr.heap.size = b5 at *
      have x0 := cell_of_row w5 b5 0 _ _ _ HX5.out
      have x1 := cell_of_row w5 b5 1 _ _ _ HX5.out
      simp only [List.getElem?_toArray, List.getElem?_cons_zero, List.getElem?_cons_succ] at x0 x1
      rcases HBD.out with hbad | hbad
      · have HFF := Lib.hid (HF.out hbad)
        rcases hbad with h0 | h0
        · subst h0
          go_wp2_with fail
          go_ret
          exact ⟨by rw [HFF.out]; rfl, HB5.out⟩
        · have g1 : ¬ (kl : Int) = 0 := by omega
          have g2 : (64 : Int) < (kl : Int) := by omega
          have g3 : ((kl : Int) == 0) = false := beq_false_of_ne g1
          have g4 : decide ((64 : Int) < (kl : Int)) = true := decide_eq_true g2
          clear h0
          go_wp2_with fail
          go_ret
          exact ⟨by rw [HFF.out]; rfl, HB5.out⟩
      · have HNG2 := Lib.hid (HNG.out hbad)
        have g1 : ¬ (kl : Int) = 0 := by omega
        have g2 : ¬ (64 : Int) < (kl : Int) := by omega
        have g3 : ((kl : Int) == 0) = false := beq_false_of_ne g1
        have g4 : decide ((64 : Int) < (kl : Int)) = false := decide_eq_false g2
        have hq : (kl : Int) + (vl : Int) ≤ 281474976710656000 := by have := HMB.out; omega
        have hq2 : (m : Int) + ((kl : Int) + (vl : Int)) ≤ 281474976710656000 := by have := HMB.out; omega
        have w1 : IntKind.i64.wrap ((kl : Int) + (vl : Int)) = (kl : Int) + (vl : Int) := wrap_ok _ (by omega) (by omega)
        have w2 : IntKind.i64.wrap ((m : Int) + ((kl : Int) + (vl : Int))) = (m : Int) + ((kl : Int) + (vl : Int)) := wrap_ok _ (by omega) (by omega)
        clear hbad
        go_wp2_with fail
        go_roundw
        case rel => exact ⟨k + 1, HKN.out, by go_num, by rw [HNX.out]; go_num, HB5.out, HNG2.out⟩
        case measure => simp [intOf]; omega
    · obtain rfl : k = C.length := by omega
      have HNB : Hid (¬ ∃ c ∈ C, badK c) := Lib.hid (by
        rintro ⟨c, hc, hbad⟩
        exact HG.out c (by rw [List.take_length]; exact hc) hbad)
      rw [List.take_length]
      have hw : 61440 < weigh C := by
        apply Classical.byContradiction
        intro hn
        refine HL.out.2.2 ?_
        unfold mayP
        rw [if_neg HNB.out, if_neg hn]
      have HFF : Hid (mayP C = 10) := Lib.hid (by unfold mayP; rw [if_neg HNB.out, if_pos hw])
      have hwz : (61440 : Int) < (weigh C : Int) := by omega
      have hwd : decide ((61440 : Int) < (weigh C : Int)) = true := decide_eq_true hwz
      generalize weigh C = q at *
      clear hb hw
      go_wp2_with fail
      go_ret
      exact ⟨by rw [HFF.out]; rfl, HB.out⟩

set_option maxRecDepth 100000 in
set_option maxHeartbeats 4000000 in
theorem do_none {B : Nat} {w0 w : World} {pt pl pd : Nat} {kv : Value} {ring u sec : Nat} {P : List KV} (h : Tb B w0 w pt pl pd kv ring u sec P) {a : Option Addr} {cap : Nat} :
    Calls Try.prog 12 #[.pointer (some ⟨pt, 0, none⟩), .slice a 0 cap] w fun e w' => e = .returned (.int .i64 0) ∧ Tb B w0 w' pt pl pd kv ring u sec P ∧ LT w w' := by
  have HNO : Hid (Calls Try.prog 31 #[.pointer (some ⟨pt, 0, none⟩)] w fun e w' => e = .returned (.bool false) ∧ w = w') := Lib.hid (by
    obtain ⟨_, ⟨cost, pv, L, ht, _⟩, _⟩ := h
    exact ht.none)
  have HT := Lib.hid h
  obtain ⟨st6, ⟨cost6, pv6, L6, htv6, -⟩, -⟩ := id h
  obtain ⟨t0, -, -, -⟩ := htv6.cells
  have HSY := Lib.hid (sync_t h)
  clear st6 htv6 h
  go_enter Try.func12, Try.ntmps12
  go_wp2_with (first | (go_at_call 31; refine HNO.out.mono ?_; rintro e w' ⟨rfl, rfl⟩))
  go_loopw [15, 5] (fun i z wr => i = .int .i64 0 ∧ z = .int .i64 0 ∧ w = wr) (fun i _ _ => 0)
  case atStart => exact ⟨rfl, rfl, rfl⟩
  case round =>
    obtain ⟨rfl, rfl, rfl⟩ := hrel
    go_wp2_with (first | (go_at_call 32; refine HSY.out.mono ?_; rintro e w7 ⟨rfl, ht7, hl7⟩; have HT7 := Lib.hid ht7; have HL7 := Lib.hid hl7; clear ht7 hl7))
    go_ret
    exact ⟨rfl, HT7.out, HL7.out⟩

theorem do_any {B : Nat} {w0 w : World} {pt pl pd : Nat} {kv : Value} {ring u sec : Nat} {P : List KV} (h : Tb B w0 w pt pl pd kv ring u sec P) (hS : SortP P) {v : Value} {C : List Chg} (hv : ChgV w v C) (hC : C.length ≤ 60) (hlen : ∀ c ∈ C, c.key.length ≤ 281474976710656 ∧ c.val.length ≤ 281474976710656)
    (hB : B ≤ w.heap.size) (hroom : u + 2000 ≤ ring) (hring : ring ≤ 65534) (hP : P.length ≤ 5000) :
    Calls Try.prog 12 #[.pointer (some ⟨pt, 0, none⟩), v] w fun e w' => e = .returned (.int .i64 (mayP C : Nat)) ∧ Tb B w0 w' pt pl pd kv ring (u + 2000) sec (if mayP C = 0 then doneP P C else P) ∧ LT w w' := by
  by_cases hm : mayP C = 0
  · rw [if_pos hm, hm]
    have hnb : ¬ ∃ c ∈ C, badK c := by
      intro hb
      unfold mayP at hm
      rw [if_pos hb] at hm
      cases hm
    have hw : weigh C ≤ 61440 := by
      unfold mayP at hm
      rw [if_neg hnb] at hm
      split at hm
      · cases hm
      · omega
    by_cases h0 : C.length = 0
    · obtain rfl : C = [] := List.eq_nil_of_length_eq_zero h0
      obtain ⟨a, cap, rfl, -⟩ := hv
      refine (do_none h).mono ?_
      rintro e w' ⟨rfl, ht, hl⟩
      exact ⟨rfl, ht.up (by omega) (by omega), hl⟩
    · refine (do_ok h hv (by omega) hC hw (fun c hc => ?_) hB _ rfl ?_ hring hP hS).mono ?_
      · have : ¬ badK c := fun hb => hnb ⟨c, hc, hb⟩
        unfold badK at this
        omega
      · have : cellsN (16 + 27 * C.length + weigh C) ≤ 2000 := by unfold cellsN; omega
        omega
      · rintro e w' ⟨rfl, ht, hl⟩
        have : cellsN (16 + 27 * C.length + weigh C) ≤ 2000 := by unfold cellsN; omega
        exact ⟨rfl, ht.up (by omega) (by omega), hl⟩
  · rw [if_neg hm]
    refine (do_err h hv hC hlen hm).mono ?_
    rintro e w' ⟨rfl, hb⟩
    exact ⟨rfl, (h.below hb).up (by omega) (by omega), Below.lt hb⟩
end
end Go.Proofs.Ytmnbkhgogogeiaa
