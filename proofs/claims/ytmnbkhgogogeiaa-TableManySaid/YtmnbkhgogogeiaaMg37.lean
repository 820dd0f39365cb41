/-
  Several texts of one proof, each in a section of its own: May, Upd, InsS.
-/
import Derived.Test.YtmnbkhgogogeiaaRcdMg
import Derived.Test.YtmnbkhgogogeiaaApplMg
import Derived.Test.YtmnbkhgogogeiaaMg24
import Derived.Test.YtmnbkhgogogeiaaMg25
namespace Go.Proofs.Ytmnbkhgogogeiaa
section
set_option linter.unusedVariables false
open Go.RowKit

theorem ChgV.at {w : World} {v : Value} {C : List Chg} (h : ChgV w v C) (k : Nat) (hk : k < C.length) :
    ∃ g off cap ka kc va vc, v = .slice (some ⟨g, off, none⟩) C.length cap ∧ C.length ≤ cap ∧ w.cell? ⟨g, off + k * 3, none⟩ = some (.slice ka C[k].key.length kc) ∧ w.cell? ⟨g, off + k * 3 + 1, none⟩ = some (.slice va C[k].val.length vc) ∧ w.cell? ⟨g, off + k * 3 + 2, none⟩ = some (.bool C[k].drop) ∧
      RowB w (.slice ka C[k].key.length kc) C[k].key ∧ RowB w (.slice va C[k].val.length vc) C[k].val := by
  obtain ⟨a, cap, rfl, h1, h2, h3⟩ := h
  rcases h3 with h3 | ⟨g, off, rfl, hc⟩
  · rw [h3] at hk; simp at hk
  · obtain ⟨ka, kl, kc, va, vl, vc, c0, c1, c2, r1, r2⟩ := hc k hk
    have hkl : C[k].key.length = kl := by obtain ⟨_, _, _, e, h, _⟩ := r1; obtain ⟨-, rfl, -⟩ := Value.slice.inj e; exact h
    have hvl : C[k].val.length = vl := by obtain ⟨_, _, _, e, h, _⟩ := r2; obtain ⟨-, rfl, -⟩ := Value.slice.inj e; exact h
    subst hkl
    subst hvl
    exact ⟨g, off, cap, ka, kc, va, vc, rfl, h1, c0, c1, c2, r1, r2⟩
/-- how many bytes changes count for room -/
def weighL (C : List Chg) : Nat := (C.map fun c => c.key.length + c.val.length + 64).sum
theorem weighL_eq (C : List Chg) : weighL C = weigh C + 64 * C.length := by
  induction C with
  | nil => rfl
  | cons c C ih =>
    have h1 : weighL (c :: C) = c.key.length + c.val.length + 64 + weighL C := by simp [weighL]
    have h2 : weigh (c :: C) = c.key.length + c.val.length + weigh C := by simp [weigh]
    rw [h1, h2, ih]
    simp
    omega
theorem weigh_step (C : List Chg) (k : Nat) (h : k < C.length) : weigh (C.take (k + 1)) = weigh (C.take k) + C[k].key.length + C[k].val.length := by
  rw [List.take_succ_eq_append_getElem h, weigh_append]
  simp [weigh]
  omega
theorem weigh_le (C : List Chg) (M : Nat) (h : ∀ c ∈ C, c.key.length ≤ M ∧ c.val.length ≤ M) : weigh C ≤ C.length * (2 * M) := by
  induction C with
  | nil => simp [weigh]
  | cons c C ih =>
    have h2 : weigh (c :: C) = c.key.length + c.val.length + weigh C := by simp [weigh]
    have h3 := ih fun d hd => h d (by simp [hd])
    have h4 := h c (by simp)
    rw [h2, List.length_cons, Nat.add_mul]
    omega
theorem take_mem_le {C : List Chg} {M : Nat} (h : ∀ c ∈ C, c.key.length ≤ M ∧ c.val.length ≤ M) (k : Nat) : weigh (C.take k) ≤ C.length * (2 * M) := by
  refine Nat.le_trans (weigh_le (C.take k) M fun c hc => h c (List.mem_of_mem_take hc)) ?_
  exact Nat.mul_le_mul_right _ (by simp; omega)
theorem wrap_ok (x : Int) (h0 : -9223372036854775808 ≤ x) (h1 : x ≤ 9223372036854775807) : IntKind.i64.wrap x = x := by rw [IntKind.wrap_i64]; omega
abbrev badK (c : Chg) : Prop := c.key.length = 0 ∨ 64 < c.key.length
def mayP (C : List Chg) : Nat := if ∃ c ∈ C, badK c then 1 else if 61440 < weigh C then 10 else 0

set_option maxRecDepth 100000 in
set_option maxHeartbeats 4000000 in
theorem weight_any {w : World} {v : Value} {C : List Chg} (hv : ChgV w v C) (hC : C.length ≤ 60) (hlen : ∀ c ∈ C, c.key.length ≤ 281474976710656 ∧ c.val.length ≤ 281474976710656) :
    Calls Try.prog 10 #[v] w fun e w' => e = .returned (.int .i64 (weighL C : Nat)) ∧ Below w.heap.size w w' := by
  obtain ⟨a, cap, rfl, h1, h2, -⟩ := id hv
  have HV := Lib.hid hv
  have HL := Lib.hid (And.intro hC (take_mem_le hlen))
  have hcl : (C.length : Int) ≤ 60 := by omega
  clear hv h1 h2 hlen
  go_enter Try.func10, Try.ntmps10
  go_wp2_with fail
  go_loopw [4, 3] (fun i z wr => ∃ k : Nat, k ≤ C.length ∧ i = .int .i64 (k : Nat) ∧ z = .int .i64 (weigh (C.take k) + 64 * k : Nat) ∧ Below w.heap.size w wr) (fun i _ _ => C.length - (RowKit.intOf i).toNat)
  case atStart => exact ⟨0, Nat.zero_le _, rfl, rfl, Below.refl _ _⟩
  case round =>
    obtain ⟨k, hk, rfl, rfl, hb⟩ := hrel
    have HB := Lib.hid hb
    by_cases hkn : k < C.length
    · have hkz : (k : Int) < (C.length : Int) := by omega
      obtain ⟨g, off, cap2, ka, kc, va, vc, e, hcap, c0, c1, -, -, -⟩ := (HV.out.below hb).at k hkn
      obtain ⟨rfl, -, rfl⟩ := Value.slice.inj e
      have hb1 := HL.out.2 k
      have hb2 := HL.out.2 (k + 1)
      have hst := weigh_step C k hkn
      have HNX : Hid (weigh (C.take (k + 1)) + 64 * (k + 1) = weigh (C.take k) + 64 * k + C[k].key.length + C[k].val.length + 64) := Lib.hid (by omega)
      obtain ⟨m, hm⟩ : ∃ m, weigh (C.take k) + 64 * k = m := ⟨_, rfl⟩
      have hmb : m + C[k].key.length + C[k].val.length + 64 ≤ 281474976710656000 := by have := HL.out.1; omega
      rw [hm] at HNX
      rw [hm]
      clear hb1 hb2 hst hm hcap e
      generalize C[k].key.length = kl at *
      generalize C[k].val.length = vl at *
      have hq1 : (0 : Int) ≤ (m : Int) + (kl : Int) := by omega
      have hq2 : (m : Int) + (kl : Int) + (vl : Int) + 64 ≤ 281474976710656000 := by omega
      have HKN := Lib.hid hkn
      have w1 : IntKind.i64.wrap ((m : Int) + (kl : Int)) = (m : Int) + (kl : Int) := wrap_ok _ (by omega) (by omega)
      have w2 : IntKind.i64.wrap ((m : Int) + (kl : Int) + (vl : Int)) = (m : Int) + (kl : Int) + (vl : Int) := wrap_ok _ (by omega) (by omega)
      have w3 : IntKind.i64.wrap ((m : Int) + (kl : Int) + (vl : Int) + 64) = (m : Int) + (kl : Int) + (vl : Int) + 64 := wrap_ok _ (by omega) (by omega)
      clear hmb
      go_wp2_with go_region
      go_roundw
      case rel => exact ⟨k + 1, HKN.out, by go_num, by rw [HNX.out]; go_num, by first | exact HB.out | exact HB.out.drew | exact below_drewN HB.out _⟩
      case measure => simp [intOf]; omega
    · obtain rfl : k = C.length := by omega
      rw [List.take_length]
      have HWL : Hid (weighL C = weigh C + 64 * C.length) := Lib.hid (weighL_eq C)
      obtain ⟨q, hq⟩ : ∃ q, weigh C + 64 * C.length = q := ⟨_, rfl⟩
      rw [hq] at HWL
      rw [hq]
      clear hb hq
      go_wp2_with fail
      go_ret
      exact ⟨by rw [HWL.out]; rfl, HB.out⟩

set_option maxRecDepth 100000 in
set_option maxHeartbeats 4000000 in
theorem may_any {w : World} {v : Value} {C : List Chg} (hv : ChgV w v C) (hC : C.length ≤ 60) (hlen : ∀ c ∈ C, c.key.length ≤ 281474976710656 ∧ c.val.length ≤ 281474976710656) :
    Calls Try.prog 14 #[v] w fun e w' => e = .returned (.int .i64 (mayP C : Nat)) ∧ Below w.heap.size w w' := by
  obtain ⟨a, cap, rfl, h1, h2, -⟩ := id hv
  have HV := Lib.hid hv
  have HL := Lib.hid (And.intro hC (take_mem_le hlen))
  have hcl : (C.length : Int) ≤ 60 := by omega
  clear hv h1 h2 hlen
  go_enter Try.func14, Try.ntmps14
  go_wp2_with fail
  go_loopw [5, 3] (fun i z wr => ∃ k : Nat, k ≤ C.length ∧ i = .int .i64 (k : Nat) ∧ z = .int .i64 (weigh (C.take k) : Nat) ∧ Below w.heap.size w wr ∧ ∀ c ∈ C.take k, ¬ badK c) (fun i _ _ => C.length - (RowKit.intOf i).toNat)
  case atStart => exact ⟨0, Nat.zero_le _, rfl, rfl, Below.refl _ _, by simp⟩
  case round =>
    obtain ⟨k, hk, rfl, rfl, hb, hgood⟩ := hrel
    have HB := Lib.hid hb
    have HG := Lib.hid hgood
    clear hgood
    by_cases hkn : k < C.length
    · have hkz : (k : Int) < (C.length : Int) := by omega
      obtain ⟨g, off, cap2, ka, kc, va, vc, e, hcap, c0, c1, -, -, -⟩ := (HV.out.below hb).at k hkn
      obtain ⟨rfl, -, rfl⟩ := Value.slice.inj e
      by_cases hbad : badK C[k]
      · have HF : Hid (mayP C = 1) := Lib.hid (by unfold mayP; rw [if_pos ⟨C[k], List.getElem_mem hkn, hbad⟩])
        unfold badK at hbad
        generalize C[k].key.length = kl at *
        generalize C[k].val.length = vl at *
        clear hcap e
        rcases hbad with h0 | h0
        · subst h0
          go_wp2_with fail
          go_ret
          exact ⟨by rw [HF.out]; rfl, HB.out⟩
        · have g1 : ¬ (kl : Int) = 0 := by omega
          have g2 : (64 : Int) < (kl : Int) := by omega
          have g3 : ((kl : Int) == 0) = false := beq_false_of_ne g1
          have g4 : decide ((64 : Int) < (kl : Int)) = true := decide_eq_true g2
          go_wp2_with fail
          go_ret
          exact ⟨by rw [HF.out]; rfl, HB.out⟩
      · have HNG : Hid (∀ c ∈ C.take (k + 1), ¬ badK c) := Lib.hid (by
          intro c hc
          rw [List.take_succ_eq_append_getElem hkn] at hc
          rcases List.mem_append.1 hc with h | h
          · exact HG.out c h
          · obtain rfl := List.mem_singleton.1 h
            exact hbad)
        have hb1 := HL.out.2 (k + 1)
        have hst := weigh_step C k hkn
        obtain ⟨m, hm⟩ : ∃ m, weigh (C.take k) = m := ⟨_, rfl⟩
        rw [hm] at hst
        rw [hm]
        have hmb : m + C[k].key.length + C[k].val.length ≤ 281474976710656000 := by have := HL.out.1; omega
        have HNX := Lib.hid hst
        have g1 : ¬ (C[k].key.length : Int) = 0 := by unfold badK at hbad; omega
        have g2 : ¬ (64 : Int) < (C[k].key.length : Int) := by unfold badK at hbad; omega
        clear hb1 hst hm hcap e hbad
        generalize C[k].key.length = kl at *
        generalize C[k].val.length = vl at *
        have hq1 : (0 : Int) ≤ (m : Int) + (kl : Int) := by omega
        have hq2 : (m : Int) + (kl : Int) + (vl : Int) ≤ 281474976710656000 := by omega
        have g3 : ((kl : Int) == 0) = false := beq_false_of_ne g1
        have g4 : decide ((64 : Int) < (kl : Int)) = false := decide_eq_false g2
        have HKN := Lib.hid hkn
        have w1 : IntKind.i64.wrap ((m : Int) + (kl : Int)) = (m : Int) + (kl : Int) := wrap_ok _ (by omega) (by omega)
        have w2 : IntKind.i64.wrap ((m : Int) + (kl : Int) + (vl : Int)) = (m : Int) + (kl : Int) + (vl : Int) := wrap_ok _ (by omega) (by omega)
        clear hmb
        go_wp2_with go_region
        go_roundw
        case rel => exact ⟨k + 1, HKN.out, by go_num, by rw [HNX.out]; go_num, by first | exact HB.out | exact HB.out.drew | exact below_drewN HB.out _, HNG.out⟩
        case measure => simp [intOf]; omega
    · obtain rfl : k = C.length := by omega
      have HNB : Hid (¬ ∃ c ∈ C, badK c) := Lib.hid (by
        rintro ⟨c, hc, hbad⟩
        exact HG.out c (by rw [List.take_length]; exact hc) hbad)
      rw [List.take_length]
      have hg4 : ¬ (400 : Int) < (C.length : Int) := by omega
      have hg5 : decide ((400 : Int) < (C.length : Int)) = false := decide_eq_false hg4
      by_cases hw : 61440 < weigh C
      · have HF : Hid (mayP C = 10) := Lib.hid (by unfold mayP; rw [if_neg HNB.out, if_pos hw])
        have hwz : (61440 : Int) < (weigh C : Int) := by omega
        have hwd : decide ((61440 : Int) < (weigh C : Int)) = true := decide_eq_true hwz
        generalize weigh C = q at *
        clear hb
        go_wp2_with fail
        go_ret
        exact ⟨by rw [HF.out]; rfl, HB.out⟩
      · have HF : Hid (mayP C = 0) := Lib.hid (by unfold mayP; rw [if_neg HNB.out, if_neg hw])
        have hwz : ¬ (61440 : Int) < (weigh C : Int) := by omega
        have hwd : decide ((61440 : Int) < (weigh C : Int)) = false := decide_eq_false hwz
        generalize weigh C = q at *
        clear hb
        go_wp2_with fail
        go_ret
        exact ⟨by rw [HF.out]; rfl, HB.out⟩
end
section
set_option linter.unusedVariables false
open Go.RowKit

theorem prC_take (L : List Pr) (i : Nat) : (prC L).take (i * 2) = prC (L.take i) := by
  induction L generalizing i with
  | nil => simp [prC]
  | cons x r ih =>
    have e : ∀ (y : Pr) (M : List Pr), prC (y :: M) = y.kv :: y.vv :: prC M := fun y M => by simp [prC, Pr.cells]
    cases i with
    | zero => rfl
    | succ i => rw [e, show (i + 1) * 2 = i * 2 + 1 + 1 by omega, List.take_succ_cons, List.take_succ_cons, ih, List.take_succ_cons, e]
theorem prC_drop (L : List Pr) (i : Nat) : (prC L).drop (i * 2) = prC (L.drop i) := by
  induction L generalizing i with
  | nil => simp [prC]
  | cons x r ih =>
    have e : ∀ (y : Pr) (M : List Pr), prC (y :: M) = y.kv :: y.vv :: prC M := fun y M => by simp [prC, Pr.cells]
    cases i with
    | zero => rfl
    | succ i => rw [e, show (i + 1) * 2 = i * 2 + 1 + 1 by omega, List.drop_succ_cons, List.drop_succ_cons, ih, List.drop_succ_cons]
theorem prC_ins (L : List Pr) (i : Nat) (x : Pr) : prC (L.take i ++ x :: L.drop i) = (prC L).take (i * 2) ++ [x.kv, x.vv] ++ (prC L).drop (i * 2) := by
  rw [prC_take, prC_drop, prC_append, List.append_assoc]
  congr 1
theorem prC_del (L : List Pr) (i : Nat) : prC (L.take i ++ L.drop (i + 1)) = (prC L).take (i * 2) ++ (prC L).drop (i * 2 + 2) := by
  rw [prC_append, prC_take, show i * 2 + 2 = (i + 1) * 2 by omega, prC_drop]
theorem prC_set (L : List Pr) (i : Nat) (x : Pr) (h : i < L.length) (hk : x.kv = L[i].kv) : prC (L.set i x) = (prC L).set (i * 2 + 1) x.vv := by
  induction L generalizing i with
  | nil => simp at h
  | cons y r ih =>
    have e : ∀ (y : Pr) (M : List Pr), prC (y :: M) = y.kv :: y.vv :: prC M := fun y M => by simp [prC, Pr.cells]
    cases i with
    | zero =>
      simp only [List.getElem_cons_zero] at hk
      rw [List.set_cons_zero, e, e, hk]
      rfl
    | succ i =>
      simp only [List.getElem_cons_succ] at hk
      rw [List.set_cons_succ, e, e, ih i (by simpa using h) hk, show (i + 1) * 2 + 1 = i * 2 + 1 + 1 + 1 by omega, List.set_cons_succ, List.set_cons_succ]
theorem prC_one (L : List Pr) (h : ∀ x ∈ L, x.kv.oneCell' = true ∧ x.vv.oneCell' = true) : ∀ u ∈ prC L, u.oneCell' = true := by
  intro u hu
  obtain ⟨x, hx, h2⟩ := List.mem_flatMap.1 hu
  simp [Pr.cells] at h2
  rcases h2 with rfl | rfl
  · exact (h x hx).1
  · exact (h x hx).2
theorem PairR.one {w : World} {B : Nat} {pv : Value} {L : List Pr} (h : PairR w B pv L) : ∀ u ∈ prC L, u.oneCell' = true := prC_one L fun x hx => by
  obtain ⟨o1, o2, -⟩ := h.own x hx
  obtain ⟨a1, c1, e1⟩ := o1.shape
  obtain ⟨a2, c2, e2⟩ := o2.shape
  rw [e1, e2]
  exact ⟨rfl, rfl⟩

theorem Tb.upd {B : Nat} {w0 w w7 : World} {pt pl pd : Nat} {kv : Value} {ring u sec cost : Nat} {s : LgS} {S : List (List Nat)} {W : List (Nat × List Nat)} {pv pv' : Value} {L L' : List Pr} (hl : Lg B w0 w pl pd kv s S W)
    (hst : Fit s S W ∧ s.ring = ring ∧ s.used ≤ u ∧ s.number ≤ u + 1 ∧ s.ents.length ≤ u ∧ W.length ≤ u) (ht : TbV w pt (.pointer (some ⟨pl, 0, none⟩)) sec cost pv) (hc : cost ≤ 3 * u) (hr : PairR w B pv L) (hB : B ≤ pt) (hu : u ≤ 65534)
    (hb : Beside (fun k => k = pt ∨ pv.ownBlock = some k) w w7) (ht7 : TbV w7 pt (.pointer (some ⟨pl, 0, none⟩)) sec cost pv') (ho : w7.ownsRow B 79 2 pv' L'.length (prC L'))
    (hx : ∀ x ∈ L', OwnB w B x.kv x.key ∧ OwnB w B x.vv x.val ∧ (∀ n ∈ x.key, n < 256) ∧ ∀ n ∈ x.val, n < 256) :
    Tb B w0 w7 pt pl pd kv ring u sec (L'.map Pr.of) ∧ LT w w7 := by
  have hown : ∀ k, (k = pt ∨ pv.ownBlock = some k) → B ≤ k ∧ ∃ cs t fr, w.heap[k]? = some (.cells cs t fr) ∧ (t = 68 ∨ t = 79) := by
    rintro k (rfl | hk)
    · exact ⟨hB, _, _, _, ht, .inl rfl⟩
    · obtain ⟨h1, h2⟩ := World.ownsRow.lt hr.row k hk
      rcases hr.row.2 with ⟨e, _⟩ | ⟨g, cap, cur, e, hg, hh, _⟩
      · rw [e] at hk; cases hk
      · rw [e] at hk
        obtain rfl : g = k := by simpa [Value.ownBlock] using hk
        exact ⟨h1, _, _, _, hh, .inr rfl⟩
  have hnb : ∀ (v : Value) (l : List Nat), OwnB w B v l → OwnB w7 B v l := by
    intro v l h
    refine ownsRow_beside h hb (fun k hk hkk => ?_)
    obtain ⟨_, cs, t, fr, hh, ht⟩ := hown k hkk
    exact ownsRow_ne h hh (by rintro rfl; rcases ht with h | h <;> cases h) k hk rfl
  refine ⟨⟨⟨s, S, W, hl.beside hb (fun k hk => ?_), hst⟩, ⟨cost, _, L', ht7, hc, ⟨ho, fun x h => ?_⟩, rfl⟩, hB, hu⟩, LT.beside hb ?_⟩
  · obtain ⟨h1, cs, t, fr, hh, ht⟩ := hown k hk
    exact ⟨h1, cs, t, fr, hh, by rcases ht with rfl | rfl <;> decide⟩
  · obtain ⟨o1, o2, o3⟩ := hx x h
    exact ⟨hnb _ _ o1, hnb _ _ o2, o3⟩
  · intro k hk cs t fr hh
    obtain ⟨_, cs2, t2, fr2, hh2, ht⟩ := hown k hk
    rw [hh] at hh2
    simp at hh2
    rw [hh2.2.1]
    exact ht
/-- .. by a store into the table's own block, behind what turned the pairs' block alone -/
theorem Tb.upd3 {B : Nat} {w0 w w7 : World} {pt pl pd : Nat} {kv : Value} {ring u sec cost : Nat} {s : LgS} {S : List (List Nat)} {W : List (Nat × List Nat)} {pv pv' : Value} {L L' : List Pr} (hl : Lg B w0 w pl pd kv s S W)
    (hst : Fit s S W ∧ s.ring = ring ∧ s.used ≤ u ∧ s.number ≤ u + 1 ∧ s.ents.length ≤ u ∧ W.length ≤ u) (ht : TbV w pt (.pointer (some ⟨pl, 0, none⟩)) sec cost pv) (hc : cost ≤ 3 * u) (hr : PairR w B pv L) (hB : B ≤ pt) (hu : u ≤ 65534)
    (hb : Beside (fun k => pv.ownBlock = some k) w w7) (ho : w7.ownsRow B 79 2 pv' L'.length (prC L'))
    (hx : ∀ x ∈ L', OwnB w B x.kv x.key ∧ OwnB w B x.vv x.val ∧ (∀ n ∈ x.key, n < 256) ∧ ∀ n ∈ x.val, n < 256) :
    Tb B w0 (w7.setCell ⟨pt, 3, none⟩ pv') pt pl pd kv ring u sec (L'.map Pr.of) ∧ LT w (w7.setCell ⟨pt, 3, none⟩ pv') := by
  have ht7 : TbV w7 pt (.pointer (some ⟨pl, 0, none⟩)) sec cost pv := (hb.block pt (lt_of_block ht) (fun e => ownsRow_ne hr.row ht (by decide) pt e rfl)).trans ht
  refine Tb.upd hl hst ht hc hr hB hu ((hb.mono (fun k _ h => .inr h)).setCell (p := ⟨pt, 3, none⟩) (.inl (.inl rfl)) _) (ht7.set3 _) ?_ hx
  refine ownsRow_beside (own := fun k => k = pt) ho ((Beside.refl (fun k => k = pt) w7).setCell (p := ⟨pt, 3, none⟩) (.inl rfl) _) (fun k hk e => ?_)
  subst e
  exact ownsRow_ne ho ht7 (by decide) _ hk rfl
end
section
set_option linter.unusedVariables false
open Go.RowKit

set_option maxRecDepth 100000 in
set_option maxHeartbeats 4000000 in
theorem ins_shift {w : World} {g gk n cap i : Nat} {xs : List Value} {cur : Array Value} {kv vv : Value} (hl : xs.length = n * 2) (hi : i < n) (hroom : n + 1 ≤ cap) (hm : cap ≤ maxLen) (hh : w.heap[g]? = some (.cells cur 79 (0, 0))) (hs : cur.size = cap * 2) (ht : cur.toList.take (n * 2) = xs)
    (one : ∀ u ∈ xs, u.oneCell' = true) (hg : w.heap[gk]? = some (.cells #[kv, vv] 79 (0, 0))) (hne : gk ≠ g) (h1 : kv.oneCell' = true) (h2 : vv.oneCell' = true) :
    Calls Try.prog 59 #[.slice (some ⟨g, 0, none⟩) n cap, .int .i64 (i : Nat), .slice (some ⟨gk, 0, none⟩) 1 1] w fun e w' => e = .returned (.slice (some ⟨g, 0, none⟩) (n + 1) cap) ∧
      w' = (w.drew.setCells g (0 + (i + 1) * 2) (xs.drop (i * 2))).setCells g (0 + i * 2) [kv, vv] := by
  obtain ⟨i0, hi0, hz0, hz1, hz2⟩ := info_parts Try.info79
  have hcell : ∀ j u, xs[j]? = some u → w.cell? ⟨g, j, none⟩ = some u := fun j u hu => by
    rw [cell_of_row _ _ _ _ 79 (0, 0) hh]
    have hj : j < n * 2 := by have := (List.getElem?_eq_some_iff.1 hu).1; omega
    rw [← ht, List.getElem?_take_of_lt hj] at hu
    simpa using hu
  have hsome : ∀ j, j < cap * 2 → (w.cell? ⟨g, j, none⟩).isSome = true := fun j hj => by
    rw [cell_of_row _ _ _ _ 79 (0, 0) hh, Array.getElem?_eq_getElem (by omega)]
    rfl
  have hfr : ∀ j, w.frozen? ⟨g, j, none⟩ = false := fun j => by simp [World.frozen?, hh]
  have hsg : w.shape? g = some (79, cap * 2) := by simp [World.shape?, hh, hs]
  have hsk : w.shape? gk = some (79, 2) := by simp [World.shape?, hg]
  have hfk : ∀ j, w.frozen? ⟨gk, j, none⟩ = false := fun j => by simp [World.frozen?, hg]
  have hov : ∀ lb cb, (callFunc 86 #[.slice (some ⟨gk, 0, none⟩) 1 1, .slice (some ⟨g, (i + 1) * 2, none⟩) lb cb]).run Try.prog w = .ok (.value (.bool false)) w := fun lb cb => by
    rw [run_callFunc_extern Try.func86 (by kernel_rfl) (by kernel_rfl) (by kernel_rfl) (e := Extern.SlicesOverlaps.overlaps #[66, 66] #[4]) (by kernel_rfl),
      Lib.run_overlaps_apart w 66 4 79 Try.underlying66 2 (fun w => by simp [sizeOf, typeInfo, hi0, hz1]) ⟨gk, 0, none⟩ ⟨g, (i + 1) * 2, none⟩ 1 1 lb cb hne 79 79 2 (cap * 2) hsk hsg (by omega) (hfk _) (hfk _)]
    rfl
  have hdl : (xs.drop (i * 2)).length = (n - i) * 2 := by rw [List.length_drop, hl]; omega
  have hcp1 : ∀ ty dc sc, (Builtin.copy_ #[66, 66] ty #[.slice (some ⟨g, (i + 1) * 2, none⟩) (n - i) dc, .slice (some ⟨g, i * 2, none⟩) (n + 1 - i) sc]).run Try.prog w.drew = .ok (goInt ((n - i : Nat) : Int)) (w.drew.setCells g (0 + (i + 1) * 2) (xs.drop (i * 2))) := fun ty dc sc => by
    have := run_copy_many (P := Try.prog) w.drew 66 66 ty 79 i0 g ((i + 1) * 2) (n - i) dc ⟨g, i * 2, none⟩ (n + 1 - i) sc (n - i) (xs.drop (i * 2)) Try.underlying66 hi0 (by show min _ _ = _; omega) (by rw [hdl, hz1])
      (fun j v hj => by rw [Addr.add_lit]; exact hcell (i * 2 + j) v (by rwa [List.getElem?_drop] at hj))
      (fun j hj => hsome _ (by rw [hdl] at hj; omega)) (fun j hj => hfr _) (fun v hv => one v (List.mem_of_mem_drop hv))
    rw [this, Nat.zero_add]
  obtain ⟨W1, hW1⟩ : ∃ W1, W1 = w.drew.setCells g (0 + (i + 1) * 2) (xs.drop (i * 2)) := ⟨_, rfl⟩
  have hcp2 : ∀ ty dc, (Builtin.copy_ #[66, 66] ty #[.slice (some ⟨g, i * 2, none⟩) (n + 1 - i) dc, .slice (some ⟨gk, 0, none⟩) 1 1]).run Try.prog W1 = .ok (goInt ((1 : Nat) : Int)) (W1.setCells g (0 + i * 2) [kv, vv]) := fun ty dc => by
    have := run_copy_many (P := Try.prog) W1 66 66 ty 79 i0 g (i * 2) (n + 1 - i) dc ⟨gk, 0, none⟩ 1 1 1 [kv, vv] Try.underlying66 hi0 (by show min _ _ = _; omega) (by rw [hz1]; rfl)
      (fun j v hj => by
        rw [Addr.add_lit, hW1, World.cell?_setCells_out g _ _ _ _ (fun h _ => absurd h hne)]
        rw [← Addr.add_lit]
        exact (World.news_of_block hg j v hj))
      (fun j hj => by
        rw [hW1]
        exact Go.Lib.isSome_setCells g _ _ _ _ (hsome _ (by simp at hj; omega)))
      (fun j hj => by rw [hW1, World.frozen?_setCells]; exact hfr _) (by intro u hu; simp at hu; rcases hu with rfl | rfl <;> assumption)
    rw [this, Nat.zero_add]
  have HOV := Lib.hid hov
  have HC1 := Lib.hid hcp1
  have HC2 := Lib.hid hcp2
  rw [← hW1] at HC1
  have HW1 := Lib.hid hW1
  have hw1 : IntKind.i64.wrap ((i : Int) + 1) = (i : Int) + 1 := by rw [IntKind.wrap_i64]; unfold maxLen at hm; omega
  have hmz : (cap : Int) ≤ 9223372036854775807 := by unfold maxLen at hm; omega
  have hnz : (n : Int) + 1 ≤ 9223372036854775807 := by omega
  have hnz2 : (n : Int) < 9223372036854775807 := by omega
  have hiz : (i : Int) + 1 ≤ 9223372036854775807 := by omega
  have hin : ((i : Int) == (n : Int)) = false := beq_false_of_ne (by omega)
  have hnc : ¬ (cap : Int) < (n : Int) + 1 := by omega
  have hncd : decide ((cap : Int) < (n : Int) + 1) = false := decide_eq_false hnc
  have hle1 : (n : Int) + 1 ≤ (cap : Int) := by omega
  have htn1 : ((n : Int) + 1).toNat = n + 1 := by omega
  have hti : ((i : Int) + 1).toNat = i + 1 := by omega
  have hi1 : (i : Int) + 1 ≤ (n : Int) + 1 := by omega
  have hi2 : (i : Int) ≤ (n : Int) + 1 := by omega
  have hi3 : (i : Int) ≤ (n : Int) := by omega
  have hi4 : ¬ cap = i + 1 := by omega
  have hi5 : ¬ cap = i := by omega
  have h0z : (0 : Int) ≤ (i : Int) + 1 := by omega
  have h0n : (0 : Int) ≤ (n : Int) + 1 := by omega
  have hcz : (n : Int) ≤ (cap : Int) := by omega
  have hicz : (i : Int) ≤ (cap : Int) := by omega
  clear hov hcp1 hcp2 hW1 hcell hsome hfr hsg hsk hfk hdl hh ht hs hg one hl hi hm hroom hi0 hz0 hz1 hz2
  go_enter Try.func59, Try.ntmps59
  go_upto_region 14 with (fail)
  go_wp2_with (simp only [HOV.out])
  go_region_law (refine step_copyR (.tmp 73) (.tmp 76) 66 66 (vx := .slice (some ⟨g, (i + 1) * 2, none⟩) (n - i) (cap - (i + 1))) (vy := .slice (some ⟨g, i * 2, none⟩) (n + 1 - i) (cap - i)) rfl rfl (by simp [Act.eval, Act.put]) (by simp [Act.eval, Act.put]) (HC1.out _ _ _) ?_)
  go_wp2_with fail
  rw [HC2.out]
  simp only [Result.andThen]
  rw [Oper.upon_value]
  go_wp2_with fail
  go_ret
  exact ⟨rfl, by rw [HW1.out]; simp only [Nat.zero_add]⟩
end
end Go.Proofs.Ytmnbkhgogogeiaa
