/-
  A line that the lexer takes is printed as itself; a beginning of what is printed is no fault.
-/
import Derived.Test.YtghibofnfjnfcaaGreatDoorPrintP
namespace Go.Proofs.YtghibofnfjnfcaaGreatDoor
set_option linter.unusedVariables false

def lastA : Bool → List Tk → Bool
  | p, [] => p
  | _, t :: r => lastA (t.1 == 1) r
theorem lastA_snoc (p : Bool) (l : List Tk) (t : Tk) : lastA p (l ++ [t]) = (t.1 == 1) := by
  induction l generalizing p with
  | nil => rfl
  | cons a r ih => exact ih _
theorem apart_snoc (p : Bool) (l : List Tk) (t : Tk) : apartL p (l ++ [t]) = (apartL p l && !(lastA p l && t.1 == 1)) := by
  induction l generalizing p with
  | nil => simp [apartL, lastA]
  | cons a r ih => rw [List.cons_append, apartL, apartL, lastA, ih, Bool.and_assoc]
/-- what is read, as it is printed -/
structure Rest (out : List Tk) (p : List Nat) : Prop where
  pr : out.flatMap showT = p
  rt : out.all rightT = true
  ap : apartL false out = true
theorem Rest.snoc {out : List Tk} {p : List Nat} (h : Rest out p) {t : Tk} (hr : rightT t = true) (ha : t.1 = 1 → lastA false out = false) : Rest (out ++ [t]) (p ++ showT t) := by
  refine ⟨by rw [List.flatMap_append, h.pr]; simp, by rw [List.all_append, h.rt]; simp [hr], ?_⟩
  rw [apart_snoc, h.ap, Bool.true_and]
  by_cases e : t.1 = 1
  · rw [ha e]; rfl
  · rw [show (t.1 == 1) = false by simpa using e, Bool.and_false]; rfl
theorem Rest.print {out : List Tk} {p : List Nat} (h : Rest out p) : printL out = some p := by
  unfold printL
  rw [h.rt, h.ap, h.pr]
  rfl
def pend (s : LS) : List Nat := match s.m with
  | .btw => []
  | .atom => s.text
  | .quo => 34 :: escL s.text
  | .esc => 34 :: escL s.text ++ [92]
  | .siz => 123 :: s.text
  | .car => 123 :: s.text ++ [125]
  | .fee => 123 :: s.text ++ [125, 13]
  | .lit => 123 :: decL (s.text.length + s.left) ++ [125, 13, 10] ++ s.text
structure Inv (s : LS) (p : List Nat) : Prop where
  q : ∃ q, Rest s.out q ∧ p = q ++ pend s
  la : s.m = .btw ∨ s.m = .atom → lastA false s.out = false
  bt : s.m = .btw → s.text = []
  at_ : s.m = .atom → s.text ≠ [] ∧ ∀ c ∈ s.text, inAtomN c = true
  qu : s.m = .quo ∨ s.m = .esc → ∀ c ∈ s.text, inQuoN c = true
  sz : s.m = .siz ∨ s.m = .car ∨ s.m = .fee → (∀ c ∈ s.text, 48 ≤ c ∧ c ≤ 57) ∧ (s.text = [] ∨ NoZero s.text)
  ne : s.m = .car ∨ s.m = .fee → s.text ≠ []
  li : s.m = .lit → 0 < s.left ∧ s.text.length + s.left ≤ 16384 ∧ ∀ c ∈ s.text, c ≠ 0
theorem Inv.of_rest {s : LS} {p : List Nat} (h : Rest s.out p) (hm : s.m = .btw) (hl : lastA false s.out = false) (ht : s.text = []) : Inv s p :=
  ⟨⟨p, h, by simp [pend, hm]⟩, fun _ => hl, fun _ => ht, (fun e => by rw [hm] at e; cases e), (fun e => by rw [hm] at e; rcases e with e | e <;> cases e), (fun e => by rw [hm] at e; rcases e with e | e | e <;> cases e), (fun e => by rw [hm] at e; rcases e with e | e <;> cases e), (fun e => by rw [hm] at e; cases e)⟩
theorem Inv.of_quo {s : LS} {p q : List Nat} (hm : s.m = .quo ∨ s.m = .esc) (h : Rest s.out q) (hp : p = q ++ pend s) (hq : ∀ c ∈ s.text, inQuoN c = true) : Inv s p := by
  refine ⟨⟨q, h, hp⟩, ?_, ?_, ?_, fun _ => hq, ?_, ?_, ?_⟩ <;> intro e <;> rcases hm with hm | hm <;> rw [hm] at e <;> first | (rcases e with e | e | e <;> cases e) | (rcases e with e | e <;> cases e) | cases e
theorem Inv.of_siz {s : LS} {p q : List Nat} (hm : s.m = .siz ∨ s.m = .car ∨ s.m = .fee) (h : Rest s.out q) (hp : p = q ++ pend s) (hd : ∀ c ∈ s.text, 48 ≤ c ∧ c ≤ 57) (hz : s.text = [] ∨ NoZero s.text) (hn : s.m = .car ∨ s.m = .fee → s.text ≠ []) : Inv s p := by
  refine ⟨⟨q, h, hp⟩, ?_, ?_, ?_, ?_, fun _ => ⟨hd, hz⟩, hn, ?_⟩ <;> intro e <;> rcases hm with hm | hm | hm <;> rw [hm] at e <;> first | (rcases e with e | e <;> cases e) | cases e
theorem show_single {c : Nat} (h : singleN c ≠ 0) : showT (singleN c, []) = [c] ∧ rightT (singleN c, []) = true ∧ singleN c ≠ 1 := by
  have hc : c = 40 ∨ c = 41 ∨ c = 91 ∨ c = 93 ∨ c = 32 := by
    unfold singleN at h
    split at h
    · omega
    · split at h
      · omega
      · split at h
        · omega
        · split at h
          · omega
          · split at h
            · omega
            · exact absurd rfl h
  rcases hc with rfl | rfl | rfl | rfl | rfl <;> exact ⟨rfl, rfl, by decide⟩
theorem bet_inv {s : LS} {p : List Nat} {c : Nat} (h : Rest s.out p) (ht : s.text = []) (hl : inAtomN c = true → lastA false s.out = false) (h0 : (betS s c).2 = 0) : Inv (betS s c).1 (p ++ [c]) := by
  unfold betS at h0 ⊢
  by_cases h1 : singleN c ≠ 0
  · rw [if_pos h1]
    obtain ⟨e1, e2, e3⟩ := show_single h1
    have := h.snoc (t := (singleN c, [])) e2 (fun e => absurd e e3)
    rw [e1] at this
    refine Inv.of_rest ?_ rfl ?_ rfl
    · simpa [tellS, ht] using this
    · simp only [tellS]; rw [lastA_snoc]; simpa using e3
  · rw [if_neg h1] at h0 ⊢
    by_cases h2 : c = 34
    · subst h2
      rw [if_pos rfl]
      exact Inv.of_quo (.inl rfl) (q := p) h (by simp [pend, ht, escL]) (by simp [ht])
    · rw [if_neg h2] at h0 ⊢
      by_cases h3 : c = 123
      · subst h3
        rw [if_pos rfl]
        exact Inv.of_siz (.inl rfl) (q := p) h (by simp [pend, ht]) (by simp [ht]) (.inl ht) (by rintro (e | e) <;> cases e)
      · rw [if_neg h3] at h0 ⊢
        by_cases h4 : inAtomN c = true
        · rw [if_pos h4]
          refine ⟨⟨p, h, by simp [pend, pushT, ht]⟩, fun _ => hl h4, (fun e => nomatch e), fun _ => ⟨by simp [pushT], by simp [pushT, ht, h4]⟩, (fun e => by rcases e with e | e <;> cases e), (fun e => by rcases e with e | e | e <;> cases e), (fun e => by rcases e with e | e <;> cases e), (fun e => nomatch e)⟩
        · rw [if_neg h4] at h0
          cases h0
theorem escL_snoc (t : List Nat) (c : Nat) : escL (t ++ [c]) = escL t ++ (if c = 34 ∨ c = 92 then [92, c] else [c]) := by simp [escL]
theorem step_inv {s : LS} {p : List Nat} {c : Nat} (k : Inv s p) (h0 : (stepL s c).2 = 0) : Inv (stepL s c).1 (p ++ [c]) := by
  obtain ⟨q, hr, hp⟩ := k.q
  unfold stepL at h0 ⊢
  cases hm : s.m
  · rw [hm] at h0
    simp only at h0 ⊢
    have : p = q := by rw [hp, pend, hm]; simp
    subst this
    exact bet_inv hr (k.bt hm) (fun _ => k.la (.inl hm)) h0
  · rw [hm] at h0
    simp only at h0 ⊢
    obtain ⟨a1, a2⟩ := k.at_ hm
    have hp' : p = q ++ s.text := by rw [hp, pend, hm]
    unfold atomS at h0 ⊢
    by_cases hc : inAtomN c = true
    · rw [if_pos hc]
      refine ⟨⟨q, hr, by simp [pend, pushT, hp']⟩, fun _ => k.la (.inr hm), (fun e => nomatch e), fun _ => ⟨by simp [pushT], ?_⟩, (fun e => by rcases e with e | e <;> cases e), (fun e => by rcases e with e | e | e <;> cases e), (fun e => by rcases e with e | e <;> cases e), (fun e => nomatch e)⟩
      exact mem_snocN (P := fun n => inAtomN n = true) a2 hc
    · rw [if_neg hc] at h0 ⊢
      have hrt : rightT (1, s.text) = true := by
        unfold rightT atomL
        simp only [if_true, Bool.and_eq_true, List.all_eq_true, Bool.not_eq_true', List.isEmpty_eq_false_iff]
        exact ⟨a2, a1⟩
      have h2 := hr.snoc (t := (1, s.text)) hrt (fun _ => k.la (.inr hm))
      rw [show showT (1, s.text) = s.text from rfl, ← hp'] at h2
      exact bet_inv (s := tellS s 1) h2 rfl (fun e => absurd e hc) h0
  · rw [hm] at h0
    simp only at h0 ⊢
    have hq := k.qu (.inl hm)
    have hp' : p = q ++ (34 :: escL s.text) := by rw [hp, pend, hm]
    unfold quoS at h0 ⊢
    by_cases h1 : c = 34
    · subst h1
      rw [if_pos rfl]
      have hrt : rightT (2, s.text) = true := by
        unfold rightT quoL
        simp only [Nat.reduceEqDiff, if_false, if_true, List.all_eq_true]
        exact hq
      have h2 := hr.snoc (t := (2, s.text)) hrt (fun e => nomatch e)
      have e : q ++ showT (2, s.text) = p ++ [34] := by rw [hp']; simp [showT]
      rw [e] at h2
      refine Inv.of_rest h2 rfl ?_ rfl
      simp only [tellS]; rw [lastA_snoc]; rfl
    · rw [if_neg h1] at h0 ⊢
      by_cases h2 : c = 92
      · subst h2
        rw [if_pos rfl]
        exact Inv.of_quo (.inr rfl) (q := q) hr (by rw [hp']; simp [pend]) hq
      · rw [if_neg h2] at h0 ⊢
        by_cases h3 : inQuoN c = true
        · rw [if_pos h3]
          refine Inv.of_quo (.inl rfl) (q := q) hr ?_ (mem_snocN (P := fun n => inQuoN n = true) hq h3)
          rw [hp']
          simp only [pend, pushT]
          rw [escL_snoc, if_neg (by omega)]
          simp
        · rw [if_neg h3] at h0
          cases h0
  · rw [hm] at h0
    simp only at h0 ⊢
    have hq := k.qu (.inr hm)
    have hp' : p = q ++ (34 :: escL s.text ++ [92]) := by rw [hp, pend, hm]
    unfold escS at h0 ⊢
    by_cases h1 : c ≠ 34 ∧ c ≠ 92
    · rw [if_pos h1] at h0; cases h0
    · rw [if_neg h1]
      have hc : c = 34 ∨ c = 92 := by omega
      refine Inv.of_quo (.inl rfl) (q := q) hr ?_ (mem_snocN (P := fun n => inQuoN n = true) hq (by rcases hc with rfl | rfl <;> rfl))
      rw [hp']
      simp only [pend, pushT]
      rw [escL_snoc, if_pos hc]
      simp
  · rw [hm] at h0
    simp only at h0 ⊢
    obtain ⟨hd, hz⟩ := k.sz (.inl hm)
    have hp' : p = q ++ (123 :: s.text) := by rw [hp, pend, hm]
    unfold sizS at h0 ⊢
    by_cases h1 : 48 ≤ c ∧ c ≤ 57 ∧ s.text ≠ [48]
    · rw [if_pos h1]
      refine Inv.of_siz (.inl rfl) (q := q) hr (by rw [hp']; simp [pend, pushT]) (mem_snocN (P := fun n => 48 ≤ n ∧ n ≤ 57) hd ⟨h1.1, h1.2.1⟩) (.inr ?_) (by rintro (e | e) <;> cases e)
      simp only [pushT]
      by_cases he : s.text = []
      · rw [he]
        by_cases h48 : c = 48
        · subst h48; exact .inl rfl
        · right; simp; exact h48
      · right
        rw [head_snoc he]
        rcases hz with hz | hz
        · exact absurd hz he
        · exact hz.resolve_left h1.2.2
    · rw [if_neg h1] at h0 ⊢
      by_cases h2 : c = 125 ∧ s.text ≠ []
      · rw [if_pos h2]
        obtain ⟨rfl, hne⟩ := h2
        exact Inv.of_siz (.inr (.inl rfl)) (q := q) hr (by rw [hp']; simp [pend]) hd hz (fun _ => hne)
      · rw [if_neg h2] at h0; cases h0
  · rw [hm] at h0
    simp only at h0 ⊢
    obtain ⟨hd, hz⟩ := k.sz (.inr (.inl hm))
    have hne := k.ne (.inl hm)
    have hp' : p = q ++ (123 :: s.text ++ [125]) := by rw [hp, pend, hm]
    unfold carS at h0 ⊢
    by_cases h1 : c ≠ 13
    · rw [if_pos h1] at h0; cases h0
    · rw [if_neg h1]
      have : c = 13 := by omega
      subst this
      exact Inv.of_siz (.inr (.inr rfl)) (q := q) hr (by rw [hp']; simp [pend]) hd hz (fun _ => hne)
  · rw [hm] at h0
    simp only at h0 ⊢
    obtain ⟨hd, hz⟩ := k.sz (.inr (.inr hm))
    have hne := k.ne (.inr hm)
    have hp' : p = q ++ (123 :: s.text ++ [125, 13]) := by rw [hp, pend, hm]
    have hdv := dec_valN hne hd (hz.resolve_left hne)
    unfold feeS at h0 ⊢
    by_cases h1 : c ≠ 10
    · rw [if_pos h1] at h0; cases h0
    · rw [if_neg h1] at h0 ⊢
      have : c = 10 := by omega
      subst this
      by_cases h2 : 16384 < valN s.text
      · rw [if_pos h2] at h0; cases h0
      · rw [if_neg h2] at h0 ⊢
        by_cases h3 : valN s.text = 0
        · rw [if_pos h3]
          rw [h3] at hdv
          have h4 := hr.snoc (t := (3, [])) rfl (fun e => nomatch e)
          have e : q ++ showT (3, []) = p ++ [10] := by
            rw [hp', ← hdv]
            simp [showT]
          rw [e] at h4
          refine Inv.of_rest h4 rfl ?_ rfl
          simp only [tellS]; rw [lastA_snoc]; rfl
        · rw [if_neg h3]
          refine ⟨⟨q, hr, ?_⟩, (fun e => by rcases e with e | e <;> cases e), (fun e => nomatch e), (fun e => nomatch e), (fun e => by rcases e with e | e <;> cases e), (fun e => by rcases e with e | e | e <;> cases e), (fun e => by rcases e with e | e <;> cases e), fun _ => ⟨by simp only; omega, by simp only [List.length_nil]; omega, by simp⟩⟩
          rw [hp']
          simp only [pend, List.length_nil, Nat.zero_add]
          rw [hdv]
          simp
  · rw [hm] at h0
    simp only at h0 ⊢
    obtain ⟨l1, l2, l3⟩ := k.li hm
    have hp' : p = q ++ (123 :: decL (s.text.length + s.left) ++ [125, 13, 10] ++ s.text) := by rw [hp, pend, hm]
    unfold litS at h0 ⊢
    by_cases h1 : c = 0
    · rw [if_pos h1] at h0; cases h0
    · rw [if_neg h1] at h0 ⊢
      have hno : ∀ x ∈ s.text ++ [c], x ≠ 0 := mem_snocN (P := fun n => n ≠ 0) l3 h1
      by_cases h2 : s.left - 1 = 0
      · rw [if_pos h2]
        have hl : s.left = 1 := by omega
        have hrt : rightT (3, s.text ++ [c]) = true := by
          unfold rightT litL
          simp only [Nat.reduceEqDiff, if_false, if_true, Bool.and_eq_true, decide_eq_true_eq, List.all_eq_true, bne_iff_ne, ne_eq]
          exact ⟨by simp; omega, hno⟩
        have h4 := hr.snoc (t := (3, s.text ++ [c])) hrt (fun e => nomatch e)
        have e : q ++ showT (3, s.text ++ [c]) = p ++ [c] := by
          rw [hp', hl]
          simp [showT]
        rw [e] at h4
        refine Inv.of_rest h4 rfl ?_ rfl
        simp only [tellS]; rw [lastA_snoc]; rfl
      · rw [if_neg h2]
        refine ⟨⟨q, hr, ?_⟩, (fun e => by rcases e with e | e <;> cases e), (fun e => nomatch e), (fun e => nomatch e), (fun e => by rcases e with e | e <;> cases e), (fun e => by rcases e with e | e | e <;> cases e), (fun e => by rcases e with e | e <;> cases e), fun _ => ⟨by simp only; omega, by simp [pushT]; omega, hno⟩⟩
        rw [hp']
        simp only [pend, pushT, List.length_append, List.length_singleton]
        rw [show s.text.length + 1 + (s.left - 1) = s.text.length + s.left by omega]
        simp
theorem run_inv : ∀ (l : List Nat) {s : LS} {p : List Nat}, Inv s p → (runL s l).2 = 0 → Inv (runL s l).1 (p ++ l) := by
  intro l
  induction l with
  | nil => intro s p k _; rw [List.append_nil]; exact k
  | cons c r ih =>
    intro s p k h0
    rw [run_cons] at h0 ⊢
    by_cases h : (stepL s c).2 = 0
    · rw [if_pos h] at h0 ⊢
      have := ih (step_inv k h) h0
      simpa using this
    · rw [if_neg h] at h0
      exact absurd h0 h
/-- what is taken is printed as itself -/
theorem lex_print {b : List Nat} {m : List Tk} (hb : ∀ n ∈ b, n < 256) (h : lexS b = (0, m)) : printL m = some b := by
  obtain ⟨h0, hop, hm⟩ := lex_yes hb h
  have k := run_inv b (Inv.of_rest (s := ls0) (p := []) ⟨rfl, rfl, rfl⟩ rfl rfl rfl) h0
  rw [List.nil_append] at k
  have f := fit_run fit0 b hb h0
  obtain ⟨q, hr, hp⟩ := k.q
  by_cases ht : (runL ls0 b).1.text = []
  · rw [if_pos ht] at hm
    subst hm
    have hmode : (runL ls0 b).1.m = .btw := by
      by_cases h1 : (runL ls0 b).1.m = .btw
      · exact h1
      · by_cases h2 : (runL ls0 b).1.m = .atom
        · exact absurd ht (k.at_ h2).1
        · rw [f.op h1 h2] at hop; cases hop
    have : q = b := by rw [hp, pend, hmode]; simp
    subst this
    exact hr.print
  · rw [if_neg ht] at hm
    subst hm
    have hmode : (runL ls0 b).1.m = .atom := by
      by_cases h2 : (runL ls0 b).1.m = .atom
      · exact h2
      · by_cases h1 : (runL ls0 b).1.m = .btw
        · exact absurd (k.bt h1) ht
        · rw [f.op h1 h2] at hop; cases hop
    obtain ⟨a1, a2⟩ := k.at_ hmode
    have hrt : rightT (1, (runL ls0 b).1.text) = true := by
      unfold rightT atomL
      simp only [if_true, Bool.and_eq_true, List.all_eq_true, Bool.not_eq_true', List.isEmpty_eq_false_iff]
      exact ⟨a2, a1⟩
    have h2 := hr.snoc (t := (1, (runL ls0 b).1.text)) hrt (fun _ => k.la (.inr hmode))
    have : q ++ showT (1, (runL ls0 b).1.text) = b := by
      conv => rhs; rw [hp, pend, hmode]
      rfl
    rw [this] at h2
    exact h2.print
/-- a beginning of what is taken is taken too, or too short -/
theorem lex_take {x : List Nat} {l : List Tk} (h : lexS x = (0, l)) (n : Nat) : (lexS (x.take n)).1 = 0 ∨ (lexS (x.take n)).1 = 8 := by
  have h0 : (runL ls0 x).2 = 0 := by
    unfold lexS at h
    by_cases e : (runL ls0 x).2 = 0
    · exact e
    · rw [if_neg e] at h
      exact absurd (Prod.mk.inj h).1 e
  have key : ∀ (a b : List Nat) (s : LS), (runL s (a ++ b)).2 = 0 → (runL s a).2 = 0 := by
    intro a
    induction a with
    | nil => intro b s _; rfl
    | cons c r ih =>
      intro b s hh
      rw [List.cons_append, run_cons] at hh
      rw [run_cons]
      by_cases e : (stepL s c).2 = 0
      · rw [if_pos e] at hh ⊢
        exact ih b _ hh
      · rw [if_neg e] at hh
        exact absurd hh e
  have h1 := key (x.take n) (x.drop n) ls0 (by rw [List.take_append_drop]; exact h0)
  unfold lexS
  rw [if_pos h1]
  unfold finL
  split
  · exact .inr rfl
  · split
    · exact .inl rfl
    · exact .inl rfl
end Go.Proofs.YtghibofnfjnfcaaGreatDoor
