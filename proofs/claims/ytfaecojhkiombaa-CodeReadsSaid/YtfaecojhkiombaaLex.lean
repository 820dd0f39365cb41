/-
  The order of bytes: the bytes of a lesser number, and of a lesser text, are less, whatever stands behind.
-/
import Derived.Test.YtfaecojhkiombaaRNum
namespace Go.Proofs.Ytfaecojhkiombaa
set_option linter.unusedVariables false

/-- lists of numbers, held against each other one by one -/
def lexL : List Nat → List Nat → Bool
  | _, [] => false
  | [], _ :: _ => true
  | a :: x, b :: y => decide (a < b) || (decide (a = b) && lexL x y)

theorem bytesLess_map (x y : List Nat) (hx : ∀ n ∈ x, n < 256) (hy : ∀ n ∈ y, n < 256) : Op.bytesLess (x.map UInt8.ofNat) (y.map UInt8.ofNat) = lexL x y := by
  induction x generalizing y with
  | nil => cases y <;> simp [Op.bytesLess, lexL]
  | cons a x ih => cases y with
    | nil => simp [Op.bytesLess, lexL]
    | cons b y =>
      have ha := hx a (by simp)
      have hb := hy b (by simp)
      simp only [List.map_cons, Op.bytesLess, lexL, ih y (fun n hn => hx n (by simp [hn])) (fun n hn => hy n (by simp [hn]))]
      have e1 : decide (UInt8.ofNat a < UInt8.ofNat b) = decide (a < b) := by
        rw [decide_eq_decide, UInt8.lt_iff_toNat_lt]
        simp
        omega
      have e2 : (UInt8.ofNat a == UInt8.ofNat b) = decide (a = b) := by
        rw [Bool.eq_iff_iff]
        simp only [beq_iff_eq, decide_eq_true_eq]
        constructor
        · intro h
          have := congrArg UInt8.toNat h
          simp at this
          omega
        · intro h; rw [h]
      rw [e1, e2]

theorem lex_txt (x y m o : List Nat) (h : x ≠ y) : lexL (txt x ++ m) (txt y ++ o) = lexL x y := by
  induction x generalizing y with
  | nil => cases y with
    | nil => exact absurd rfl h
    | cons b y =>
      by_cases hb : b = 0
      · subst hb; simp [txt, esc, lexL]
      · simp [txt, esc, lexL, hb]
        omega
  | cons a x ih => cases y with
    | nil =>
      by_cases ha : a = 0
      · subst ha; simp [txt, esc, lexL]
      · simp [txt, esc, lexL, ha]
    | cons b y =>
      by_cases hab : a = b
      · subst hab
        have hxy : x ≠ y := fun e => h (by rw [e])
        have := ih y hxy
        simp only [txt] at this
        by_cases ha : a = 0
        · subst ha
          simp only [txt, esc, List.flatMap_cons, if_true, List.append_assoc, List.cons_append, List.nil_append, lexL, Nat.lt_irrefl, decide_false, Bool.false_or, decide_true, Bool.true_and] at this ⊢
          exact this
        · simp only [txt, esc, List.flatMap_cons, if_neg ha, List.append_assoc, List.cons_append, List.nil_append, lexL, Nat.lt_irrefl, decide_false, Bool.false_or, decide_true, Bool.true_and] at this ⊢
          exact this
      · by_cases ha : a = 0
        · subst ha
          have hb : ¬ b = 0 := fun e => hab e.symm
          simp [txt, esc, lexL, hb, hab]
        · by_cases hb : b = 0
          · subst hb
            simp [txt, esc, lexL, ha]
          · simp [txt, esc, lexL, ha, hb, hab]

/-- the number that bytes are -/
def val (l : List Nat) : Nat := l.foldl (fun s d => s * 256 + d) 0

theorem val_foldl (l : List Nat) (s : Nat) : l.foldl (fun s d => s * 256 + d) s = s * 256 ^ l.length + val l := by
  induction l generalizing s with
  | nil => simp [val]
  | cons a l ih =>
    have h2 : val (a :: l) = (0 * 256 + a) * 256 ^ l.length + val l := ih (0 * 256 + a)
    rw [List.foldl_cons, ih (s * 256 + a), h2, List.length_cons, Nat.pow_succ]
    generalize val l = t
    generalize 256 ^ l.length = p
    have e : (s * 256 + a) * p = s * (p * 256) + a * p := by rw [Nat.add_mul, Nat.mul_assoc, Nat.mul_comm 256 p]
    rw [e, Nat.zero_mul, Nat.zero_add]
    omega

theorem val_cons (a : Nat) (l : List Nat) : val (a :: l) = a * 256 ^ l.length + val l := by
  have := val_foldl l a
  simpa [val] using this
theorem val_snoc (a : Nat) (l : List Nat) : val (l ++ [a]) = val l * 256 + a := by simp [val]

theorem val_lt (l : List Nat) (h : ∀ n ∈ l, n < 256) : val l < 256 ^ l.length := by
  induction l with
  | nil => simp [val]
  | cons a l ih =>
    rw [val_cons]
    have h1 := ih (fun n hn => h n (by simp [hn]))
    have h2 := h a (by simp)
    simp only [List.length_cons, Nat.pow_succ]
    have : a * 256 ^ l.length ≤ 255 * 256 ^ l.length := Nat.mul_le_mul_right _ (by omega)
    omega

theorem lex_val (x y m o : List Nat) (hl : x.length = y.length) (hx : ∀ n ∈ x, n < 256) (hy : ∀ n ∈ y, n < 256) (h : val x ≠ val y) :
    lexL (x ++ m) (y ++ o) = decide (val x < val y) := by
  induction x generalizing y with
  | nil => cases y with
    | nil => exact absurd rfl h
    | cons => simp at hl
  | cons a x ih => cases y with
    | nil => simp at hl
    | cons b y =>
      have hl' : x.length = y.length := by simpa using hl
      have vx := val_lt x (fun n hn => hx n (by simp [hn]))
      have vy := val_lt y (fun n hn => hy n (by simp [hn]))
      simp only [val_cons] at h ⊢
      simp only [List.cons_append, lexL]
      rw [hl'] at h vx ⊢
      by_cases hab : a = b
      · subst hab
        rw [ih y hl' (fun n hn => hx n (by simp [hn])) (fun n hn => hy n (by simp [hn])) (by omega)]
        simp
      · rcases Nat.lt_or_gt_of_ne hab with hlt | hlt
        · have : (a + 1) * 256 ^ y.length ≤ b * 256 ^ y.length := Nat.mul_le_mul_right _ hlt
          rw [Nat.add_mul] at this
          simp [hlt]
          omega
        · have : (b + 1) * 256 ^ y.length ≤ a * 256 ^ y.length := Nat.mul_le_mul_right _ hlt
          rw [Nat.add_mul] at this
          simp [hab, Nat.not_lt_of_gt hlt]
          omega

theorem val_digs (v k : Nat) (hv : v < 2 ^ 64) (hk : k ≤ 8) : val (digs v k) = v / 2 ^ (64 - 8 * k) := by
  induction k with
  | zero =>
    simp [digs, val]
    exact (Nat.div_eq_of_lt hv).symm
  | succ k ih =>
    have ih := ih (by omega)
    have e : 64 - 8 * k = (56 - 8 * k) + 8 := by omega
    have e2 : 64 - 8 * (k + 1) = 56 - 8 * k := by omega
    rw [e, Nat.pow_add, ← Nat.div_div_eq_div_mul] at ih
    rw [e2]
    unfold digs
    split
    · rename_i hc
      rw [hc.2] at ih
      have h0 : v / 2 ^ (56 - 8 * k) / 2 ^ 8 = 0 := by rw [← ih]; rfl
      have h1 := hc.1
      unfold byteAt at h1
      rw [hc.2]
      simp only [val, List.foldl_nil]
      omega
    · rw [val_snoc, ih]
      unfold byteAt
      omega

theorem digs_head (v k : Nat) : ∀ a l, digs v k = a :: l → a ≠ 0 := by
  induction k with
  | zero => intro a l h; simp [digs] at h
  | succ k ih =>
    intro a l h
    unfold digs at h
    split at h
    · exact ih a l h
    · rename_i hc
      cases hd : digs v k with
      | nil =>
        rw [hd] at h
        simp at h
        intro e
        exact hc ⟨by rw [h.1]; exact e, hd⟩
      | cons c t =>
        rw [hd] at h
        simp at h
        rw [← h.1]
        exact ih c t hd

theorem digs_low (v : Nat) (h : digs v 8 ≠ []) : 256 ^ ((digs v 8).length - 1) ≤ val (digs v 8) := by
  cases hd : digs v 8 with
  | nil => exact absurd hd h
  | cons a l =>
    have := digs_head v 8 a l hd
    rw [val_cons]
    have h1 : 1 * 256 ^ l.length ≤ a * 256 ^ l.length := Nat.mul_le_mul_right _ (by omega)
    simp
    omega

theorem lex_num (a b : Nat) (m o : List Nat) (ha : a < 2 ^ 64) (hb : b < 2 ^ 64) (h : a ≠ b) : lexL (numB a ++ m) (numB b ++ o) = decide (a < b) := by
  have va := val_digs a 8 ha (by omega)
  have vb := val_digs b 8 hb (by omega)
  simp at va vb
  have la := val_lt _ (digs_lt a 8)
  have lb := val_lt _ (digs_lt b 8)
  have key : ∀ c d : Nat, c < 2 ^ 64 → d < 2 ^ 64 → (digs c 8).length < (digs d 8).length → c < d := by
    intro c d hc hd hlt
    have vc := val_digs c 8 hc (by omega)
    have vd := val_digs d 8 hd (by omega)
    simp at vc vd
    have lc := val_lt _ (digs_lt c 8)
    have ld := digs_low d (by intro e; rw [e] at hlt; simp at hlt)
    have : 256 ^ (digs c 8).length ≤ 256 ^ ((digs d 8).length - 1) := Nat.pow_le_pow_right (by omega) (by omega)
    omega
  by_cases hl : (digs a 8).length = (digs b 8).length
  · simp only [numB, List.cons_append, lexL, hl, Nat.lt_irrefl, decide_false, Bool.false_or, decide_true, Bool.true_and]
    rw [lex_val _ _ m o hl (digs_lt a 8) (digs_lt b 8) (by rw [va, vb]; exact h), va, vb]
  · rcases Nat.lt_or_gt_of_ne hl with hlt | hlt
    · have := key a b ha hb hlt
      simp [numB, lexL, hlt, this]
    · have := key b a hb ha hlt
      simp [numB, lexL, hl, Nat.not_lt_of_gt hlt, Nat.le_of_lt this]
end Go.Proofs.Ytfaecojhkiombaa
