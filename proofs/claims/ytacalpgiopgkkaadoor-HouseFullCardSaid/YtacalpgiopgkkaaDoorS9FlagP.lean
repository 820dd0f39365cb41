/-
  Flags as lists of bytes: what Fold, All and Hide make of them, as plain functions; sorted lists of one content are one.
-/
import Derived.Lib.SlicesCompact
import Derived.Lib.Strings
import Derived.Lib.IndexAny
namespace Go.Proofs.YtacalpgiopgkkaaDoor
namespace S9
set_option linter.unusedVariables false

abbrev Tx := List UInt8
def lowB (c : UInt8) : UInt8 := if 65 ≤ c.toNat ∧ c.toNat ≤ 90 then c + 32 else c
def foldL (l : List UInt8) : List UInt8 := l.map lowB
def sysL : List Tx := [[92, 65, 110, 115, 119, 101, 114, 101, 100], [92, 68, 101, 108, 101, 116, 101, 100], [92, 68, 114, 97, 102, 116], [92, 70, 108, 97, 103, 103, 101, 100], [92, 83, 101, 101, 110]]
def singleN (c : Nat) : Nat := if c = 40 then 4 else if c = 41 then 5 else if c = 91 then 7 else if c = 93 then 8 else if c = 32 then 6 else 0
def inAtomN (c : Nat) : Bool := decide (32 < c) && (decide (c ≤ 126) && (singleN c == 0 && (c != 123 && c != 34)))
def atomL (l : Tx) : Bool := l.all (fun c => inAtomN c.toNat) && !l.isEmpty
def badL (l : Tx) : Bool := l.any fun c => c == 92 || c == 37 || c == 42
def plainL (l : Tx) : Bool := atomL l && decide (l.length ≤ 24) && !badL l
def foldF (l : Tx) : Option Tx :=
  match sysL.find? (fun s => foldL s == foldL l) with
  | some s => some s
  | none => if plainL l then some (foldL l) else none

theorem lowB_all (P : UInt8 → Prop) [DecidablePred P] (h : ∀ n : Fin 256, P (UInt8.ofNat n.val)) (c : UInt8) : P c := by
  have := h ⟨c.toNat, c.toNat_lt⟩
  simpa using this
theorem lowB_idem (c : UInt8) : lowB (lowB c) = lowB c := lowB_all (fun c => lowB (lowB c) = lowB c) (by decide +kernel) c
theorem lowB_atom (c : UInt8) : inAtomN (lowB c).toNat = inAtomN c.toNat := lowB_all (fun c => inAtomN (lowB c).toNat = inAtomN c.toNat) (by decide +kernel) c
theorem lowB_bad (c : UInt8) : (lowB c == 92 || lowB c == 37 || lowB c == 42) = (c == 92 || c == 37 || c == 42) := lowB_all (fun c => (lowB c == 92 || lowB c == 37 || lowB c == 42) = (c == 92 || c == 37 || c == 42)) (by decide +kernel) c
theorem foldL_idem (l : Tx) : foldL (foldL l) = foldL l := by
  unfold foldL
  rw [List.map_map]
  exact List.map_congr_left fun c _ => lowB_idem c
theorem foldL_plain (l : Tx) : plainL (foldL l) = plainL l := by
  unfold plainL atomL badL foldL
  simp only [List.all_map, List.any_map, List.length_map, List.isEmpty_map, Function.comp_def, lowB_atom, lowB_bad]
theorem foldF_fold (l : Tx) : foldF (foldL l) = foldF l := by
  unfold foldF
  rw [foldL_idem, foldL_plain]
/-- a flag as it is told is folded already -/
theorem foldF_len {l s : Tx} (h : foldF l = some s) : s.length ≤ 24 := by
  unfold foldF at h
  split at h
  · rename_i t ht
    have hm := List.mem_of_find?_eq_some ht
    simp only [Option.some.injEq] at h
    subst h
    have : ∀ x ∈ sysL, x.length ≤ 24 := by decide
    exact this _ hm
  · split at h
    · rename_i hp
      simp only [Option.some.injEq] at h
      subst h
      unfold plainL at hp
      simp only [Bool.and_eq_true, decide_eq_true_eq] at hp
      simp only [foldL, List.length_map]
      exact hp.1.2
    · cases h

theorem bad_any (l : Tx) : Lib.containsAny l [92, 37, 42] = badL l := by
  unfold badL
  induction l with
  | nil => rfl
  | cons c r ih =>
    have hge := Lib.indexAny_ge [92, 37, 42] r
    simp only [List.any_cons, ← ih]
    unfold Lib.containsAny at ih ⊢
    rw [Lib.indexAny]
    have hcc : ([92, 37, 42] : List UInt8).contains c = (c == 92 || c == 37 || c == 42) := lowB_all (fun c => ([92, 37, 42] : List UInt8).contains c = (c == 92 || c == 37 || c == 42)) (by decide +kernel) c
    rw [hcc]
    cases h2 : (c == 92 || c == 37 || c == 42) with
    | true => simp
    | false =>
      rw [if_neg (by simp), Bool.false_or]
      by_cases e : Lib.indexAny r [92, 37, 42] = -1
      · rw [e]; rfl
      · rw [if_neg (by simpa using e)]
        have : 0 ≤ Lib.indexAny r [92, 37, 42] := by omega
        rw [decide_eq_true this, decide_eq_true (by omega)]
theorem plain_ascii {l : Tx} (h : atomL l = true) : ∀ (j : Nat) b, l[j]? = some b → b.toNat < 128 := by
  intro j b hb
  unfold atomL at h
  simp only [Bool.and_eq_true, List.all_eq_true] at h
  have := h.1 b (List.mem_of_getElem? hb)
  unfold inAtomN at this
  simp only [Bool.and_eq_true, decide_eq_true_eq] at this
  omega

/-- whether a flag is a token's keyword -/
def digsL (d : Tx) : Bool := d.all fun c => decide (48 ≤ c.toNat) && decide (c.toNat ≤ 57)
def restL (d : Tx) : Bool := !d.isEmpty && d.head? != some 48 && digsL d
def marksL (l : Tx) : Bool := Lib.hasPrefix (foldL l) [36, 99, 117, 98] && restL ((foldL l).drop 4)
def hideL (T : List Tx) : List Tx := T.filter fun t => !marksL t
def fewL (T : List Tx) : Bool := decide ((hideL T).length ≤ 16)
def sortT (T : List Tx) : List Tx := T.mergeSort fun x y => decide (x ≤ y)
def setT (T : List Tx) : List Tx := Lib.compact (sortT T)

/-- what All answers -/
inductive AllR where
  | form
  | long
  | ok (T : List Tx)
def foldsL (L : List Tx) : Option (List Tx) := L.mapM foldF
def allR (L : List Tx) : AllR := match foldsL L with
  | none => .form
  | some T => if fewL (setT T) then .ok (setT T) else .long

theorem mem_compact {T : List Tx} {x : Tx} : x ∈ Lib.compact T ↔ x ∈ T := by
  unfold Lib.compact Lib.compactUpTo
  constructor
  · intro h
    obtain ⟨j, hj, rfl⟩ := List.mem_map.1 h
    have := (List.mem_filter.1 hj).1
    rw [List.mem_range] at this
    rw [getElem!_pos _ j (by simpa using this)]
    simp
  · intro h
    obtain ⟨i, hi, rfl⟩ := List.mem_iff_getElem.1 h
    have key : ∀ k, (hk : k < T.length) → ∃ j, j ≤ k ∧ Lib.keeps T.toArray j = true ∧ T.toArray[j]! = T[k] := by
      intro k
      induction k with
      | zero => intro hk; exact ⟨0, Nat.le_refl _, by simp [Lib.keeps], by rw [getElem!_pos _ 0 (by simpa using hk)]; rfl⟩
      | succ k ih =>
        intro hk
        by_cases e : T.toArray[k + 1]! = T.toArray[k + 1 - 1]!
        · obtain ⟨j, hj, h1, h2⟩ := ih (by omega)
          refine ⟨j, by omega, h1, ?_⟩
          rw [h2]
          simp only [Nat.add_sub_cancel] at e
          rw [getElem!_pos _ (k + 1) (by simpa using hk), getElem!_pos _ k (by simp; omega)] at e
          simpa using e.symm
        · exact ⟨k + 1, Nat.le_refl _, Lib.keeps_pos e, by rw [getElem!_pos _ (k + 1) (by simpa using hk)]; rfl⟩
    obtain ⟨j, hj, h1, h2⟩ := key i hi
    rw [← h2]
    exact List.mem_map.2 ⟨j, List.mem_filter.2 ⟨List.mem_range.2 (by omega), h1⟩, rfl⟩
theorem mem_setT {T : List Tx} {x : Tx} : x ∈ setT T ↔ x ∈ T := by
  unfold setT sortT
  rw [mem_compact]
  exact (List.mergeSort_perm _ _).mem_iff

theorem sortT_sorted (T : List Tx) : (sortT T).Pairwise (fun a b => a ≤ b) := by
  have := List.pairwise_mergeSort (le := fun x y : Tx => decide (x ≤ y)) (fun a b c h1 h2 => by simp only [decide_eq_true_eq] at *; exact Std.le_trans h1 h2) (fun a b => by simp only [Bool.or_eq_true, decide_eq_true_eq]; exact Std.le_total) T
  exact this.imp (by simp)
theorem setT_rises (T : List Tx) : (setT T).Pairwise (fun a b => a < b) := by
  have hs := sortT_sorted T
  unfold setT
  generalize sortT T = S at hs
  unfold Lib.compact Lib.compactUpTo
  rw [List.pairwise_map]
  rw [List.pairwise_iff_getElem]
  intro i j hi hj hij
  have hp := List.pairwise_iff_getElem.1 ((List.pairwise_lt_range (n := S.length)).filter (Lib.keeps S.toArray)) i j hi hj hij
  generalize hA : ((List.range S.length).filter (Lib.keeps S.toArray))[i] = a at hp ⊢
  have hmb := List.mem_filter.1 (List.getElem_mem hj)
  generalize hB : ((List.range S.length).filter (Lib.keeps S.toArray))[j] = b at hp hmb ⊢
  rw [List.mem_range] at hmb
  obtain ⟨hb, hk⟩ := hmb
  have hne : S.toArray[b]! ≠ S.toArray[b - 1]! := by
    unfold Lib.keeps at hk
    simp only [decide_eq_true_eq] at hk
    rcases hk with h | h
    · omega
    · exact h
  have ga : S.toArray[a]! = S[a]'(by omega) := by rw [getElem!_pos _ a (by simp; omega)]; rfl
  have gb : S.toArray[b]! = S[b]'(by omega) := by rw [getElem!_pos _ b (by simp; omega)]; rfl
  have gc : S.toArray[b - 1]! = S[b - 1]'(by omega) := by rw [getElem!_pos _ (b - 1) (by simp; omega)]; rfl
  rw [gb, gc] at hne
  rw [ga, gb]
  have h1 : S[a]'(by omega) ≤ S[b - 1]'(by omega) := by
    by_cases e : a = b - 1
    · subst e; exact Std.le_refl _
    · exact List.pairwise_iff_getElem.1 hs a (b - 1) (by omega) (by omega) (by omega)
  have h2 : S[b - 1]'(by omega) ≤ S[b]'(by omega) := List.pairwise_iff_getElem.1 hs (b - 1) b (by omega) (by omega) (by omega)
  have h3 : S[b - 1]'(by omega) < S[b]'(by omega) := Std.lt_of_le_of_ne h2 (Ne.symm hne)
  exact Std.lt_of_le_of_lt h1 h3
theorem rises_eq {S T : List Tx} (hS : S.Pairwise (fun a b => a < b)) (hT : T.Pairwise (fun a b => a < b)) (h : ∀ x, x ∈ S ↔ x ∈ T) : S = T := by
  have hn : ∀ {L : List Tx}, L.Pairwise (fun a b => a < b) → L.Nodup := fun hL => hL.imp fun {a b} hab e => by subst e; exact Std.lt_irrefl hab
  have hp : S.Perm T := (List.perm_ext_iff_of_nodup (hn hS) (hn hT)).2 h
  exact List.Perm.eq_of_pairwise (le := fun a b : Tx => a < b) (fun a b _ _ h1 h2 => absurd (Std.lt_trans h1 h2) Std.lt_irrefl) hS hT hp
theorem setT_same {S T : List Tx} (h : ∀ x, x ∈ S ↔ x ∈ T) : setT S = setT T :=
  rises_eq (setT_rises S) (setT_rises T) fun x => by rw [mem_setT, mem_setT]; exact h x

/-- two lists of the same flags, in whatever order and case -/
theorem folds_none {L : List Tx} : foldsL L = none ↔ ∃ l ∈ L, foldF l = none := by
  unfold foldsL
  induction L with
  | nil => simp
  | cons a r ih =>
    rw [List.mapM_cons]
    cases ha : foldF a with
    | none => simp [ha]
    | some s =>
      cases hr : List.mapM foldF r with
      | none => simp only [hr] at ih; simp [ha]; exact (ih.1 trivial)
      | some T => 
        simp only [hr] at ih
        simp [ha]
        intro x hx e
        exact absurd (ih.2 ⟨x, hx, e⟩) (by simp)
theorem folds_mem {L T : List Tx} (h : foldsL L = some T) (x : Tx) : x ∈ T ↔ ∃ l ∈ L, foldF l = some x := by
  unfold foldsL at h
  induction L generalizing T with
  | nil => simp at h; subst h; simp
  | cons a r ih =>
    rw [List.mapM_cons] at h
    cases ha : foldF a with
    | none => simp [ha] at h
    | some s =>
      cases hr : List.mapM foldF r with
      | none => simp [ha, hr] at h
      | some R =>
        simp [ha, hr] at h
        subst h
        simp only [List.mem_cons, ih hr]
        constructor
        · rintro (rfl | ⟨l, hl, e⟩)
          · exact ⟨a, Or.inl rfl, ha⟩
          · exact ⟨l, Or.inr hl, e⟩
        · rintro ⟨l, (rfl | hl), e⟩
          · left; rw [ha] at e; exact (Option.some.inj e).symm
          · exact Or.inr ⟨l, hl, e⟩
theorem allR_same {L M : List Tx} (h1 : ∀ l ∈ L, ∃ m ∈ M, foldF m = foldF l) (h2 : ∀ m ∈ M, ∃ l ∈ L, foldF l = foldF m) : allR L = allR M := by
  unfold allR
  cases hL : foldsL L with
  | none =>
    obtain ⟨l, hl, e⟩ := folds_none.1 hL
    obtain ⟨m, hm, em⟩ := h1 l hl
    rw [folds_none.2 ⟨m, hm, em.trans e⟩]
  | some S =>
    cases hM : foldsL M with
    | none =>
      obtain ⟨m, hm, e⟩ := folds_none.1 hM
      obtain ⟨l, hl, el⟩ := h2 m hm
      rw [folds_none.2 ⟨l, hl, el.trans e⟩] at hL
      cases hL
    | some T =>
      have : setT S = setT T := setT_same fun x => by
        rw [folds_mem hL, folds_mem hM]
        constructor
        · rintro ⟨l, hl, e⟩
          obtain ⟨m, hm, em⟩ := h1 l hl
          exact ⟨m, hm, em.trans e⟩
        · rintro ⟨m, hm, e⟩
          obtain ⟨l, hl, el⟩ := h2 m hm
          exact ⟨l, hl, el.trans e⟩
      simp only [this]
end S9
end Go.Proofs.YtacalpgiopgkkaaDoor
