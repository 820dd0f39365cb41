/-
  What is written is read; nothing shorter is.
-/
import Derived.Test.YtfaecojhkiombaaReader
namespace Go.Proofs.Ytfaecojhkiombaa
set_option linter.unusedVariables false

theorem val_num {v : Nat} (hv : v < 2 ^ 64) : val (digs v 8) = v := by
  have := val_digs v 8 hv (by omega)
  simpa using this

theorem num_read {v : Nat} (hv : v < 2 ^ 64) (rest : List Nat) : numE (numB v ++ rest) = 0 ∧ numV (numB v ++ rest) = v ∧ numN (numB v ++ rest) = (numB v).length := by
  have hl := digs_len v 8
  refine ⟨?_, ?_, ?_⟩
  · unfold numB
    cases hd : digs v 8 with
    | nil => simp [numE]
    | cons d t =>
      have hne := digs_head v 8 d t hd
      rw [hd] at hl
      simp only [List.length_cons] at hl
      show (if 8 < (d :: t).length then 9 else if (d :: t).length = 0 then 0 else if d = 0 then 9 else if (t ++ rest).length + 1 < (d :: t).length then 8 else 0) = 0
      simp only [List.length_cons, List.length_append]
      rw [if_neg (by omega), if_neg (by omega), if_neg hne, if_neg (by omega)]
  · simp only [numB, List.cons_append, numV]
    rw [List.take_left, val_num hv]
  · simp only [numB, List.cons_append, numN, List.length_cons]
    omega

theorem num_short {v k : Nat} (h : k < (numB v).length) : numE ((numB v).take k) = 8 := by
  have hl := digs_len v 8
  unfold numB at h ⊢
  match k with
  | 0 => rfl
  | k + 1 =>
    simp only [List.length_cons] at h
    simp only [List.take_succ_cons]
    cases hd : digs v 8 with
    | nil => rw [hd] at h; simp at h
    | cons d t =>
      have hne := digs_head v 8 d t hd
      rw [hd] at hl h
      simp only [List.length_cons] at hl h
      match k with
      | 0 =>
        show (if 8 < (d :: t).length then 9 else if (d :: t).length = 0 then 0 else 8) = 8
        simp only [List.length_cons]
        rw [if_neg (by omega), if_neg (by omega)]
      | k + 1 =>
        show (if 8 < (d :: t).length then 9 else if (d :: t).length = 0 then 0 else if d = 0 then 9 else if (t.take k).length + 1 < (d :: t).length then 8 else 0) = 8
        simp only [List.length_cons, List.length_take]
        rw [if_neg (by omega), if_neg (by omega), if_neg hne, if_pos (by omega)]

theorem esc_cons (c : Nat) (b : List Nat) : esc (c :: b) = (if c = 0 then [0, 255] else [c]) ++ esc b := by simp [esc]

theorem txt_read (b rest acc : List Nat) (n : Nat) : txtP (txt b ++ rest) false acc n = (0, acc ++ b, n + (txt b).length) := by
  induction b generalizing acc n with
  | nil => simp [txt, esc, txtP]
  | cons c b ih =>
    unfold txt at ih ⊢
    rw [esc_cons]
    by_cases hc : c = 0
    · subst hc
      have := ih (acc ++ [0]) (n + 1 + 1)
      simp only [if_true, List.append_assoc, List.cons_append, List.nil_append, txtP, List.length_append, List.length_cons, List.length_nil] at this ⊢
      rw [this]
      simp
      omega
    · have := ih (acc ++ [c]) (n + 1)
      simp only [if_neg hc, List.append_assoc, List.cons_append, List.nil_append, txtP, List.length_append, List.length_cons, List.length_nil] at this ⊢
      rw [this]
      simp
      omega

theorem txt_short (b acc : List Nat) (n k : Nat) (h : k < (txt b).length) : txtP ((txt b).take k) false acc n = (8, [], 0) := by
  induction b generalizing acc n k with
  | nil =>
    match k, h with
    | 0, _ => rfl
    | 1, _ => simp [txt, esc, txtP]
    | k + 2, h => simp [txt, esc] at h; omega
  | cons c b ih =>
    unfold txt at ih h ⊢
    rw [esc_cons] at h ⊢
    by_cases hc : c = 0
    · subst hc
      simp only [if_true, List.cons_append, List.nil_append, List.length_cons] at h ⊢
      match k with
      | 0 => rfl
      | 1 => simp [txtP]
      | k + 2 =>
        have := ih (acc ++ [0]) (n + 1 + 1) k (by omega)
        simpa [txtP] using this
    · simp only [if_neg hc, List.cons_append, List.nil_append, List.length_cons] at h ⊢
      match k with
      | 0 => rfl
      | k + 1 =>
        have := ih (acc ++ [c]) (n + 1) k (by omega)
        simpa [txtP, hc] using this

/-- all three are read, and nothing is left -/
theorem back_all (v u : Nat) (b : List Nat) (hv : v < 2 ^ 64) (hu : u < 2 ^ 64) :
    let l := numB v ++ txt b ++ numB u
    numStep l 0 0 = (v, (numB v).length, 0) ∧ txtStep l (numB v).length 0 = (b, (numB v).length + (txt b).length, 0) ∧
      numStep l ((numB v).length + (txt b).length) 0 = (u, l.length, 0) := by
  intro l
  have e1 : l.drop 0 = numB v ++ (txt b ++ numB u) := by simp [l]
  have e2 : l.drop (numB v).length = txt b ++ numB u := by simp [l, List.append_assoc]
  have e3 : l.drop ((numB v).length + (txt b).length) = numB u ++ [] := by
    rw [show l = (numB v ++ txt b) ++ numB u from rfl, ← List.length_append, List.drop_left, List.append_nil]
  obtain ⟨a1, a2, a3⟩ := num_read hv (txt b ++ numB u)
  obtain ⟨c1, c2, c3⟩ := num_read hu []
  refine ⟨?_, ?_, ?_⟩
  · unfold numStep
    rw [if_neg (by simp), e1, if_pos a1, a2, a3, Nat.zero_add]
  · unfold txtStep
    rw [if_neg (by simp), e2, txt_read]
    simp
  · unfold numStep
    rw [if_neg (by simp), e3, if_pos c1, c2, c3]
    simp [l]
    omega

/-- the faults of what is shorter -/
theorem back_short (v u : Nat) (b : List Nat) (hv : v < 2 ^ 64) (hu : u < 2 ^ 64) (k : Nat) (hk : k < (numB v ++ txt b ++ numB u).length) :
    let p := (numB v ++ txt b ++ numB u).take k
    let s1 := numStep p 0 0
    let s2 := txtStep p s1.2.1 s1.2.2
    (numStep p s2.2.1 s2.2.2).2.2 = 8 := by
  intro p s1 s2
  have stay : ∀ a, (numStep p a 8).2.2 = 8 := fun a => by simp [numStep]
  by_cases h1 : k < (numB v).length
  · have hp : p = (numB v).take k := by
      simp only [p, List.append_assoc]
      rw [List.take_append_of_le_length (by omega)]
    have e1 : s1 = (0, 0, 8) := by
      simp only [s1, numStep]
      rw [if_neg (by simp), List.drop_zero, hp, num_short h1, if_neg (by decide)]
    have e2 : s2 = ([], 0, 8) := by
      simp only [s2, e1, txtStep]
      rw [if_pos (by decide)]
    rw [e2]
    exact stay 0
  · have hp : p = numB v ++ (txt b ++ numB u).take (k - (numB v).length) := by
      simp only [p, List.append_assoc]
      rw [List.take_append, List.take_of_length_le (by omega)]
    obtain ⟨a1, a2, a3⟩ := num_read hv ((txt b ++ numB u).take (k - (numB v).length))
    have e1 : s1 = (v, (numB v).length, 0) := by
      simp only [s1, numStep]
      rw [if_neg (by simp), List.drop_zero, hp, if_pos a1, a2, a3, Nat.zero_add]
    have hd : p.drop (numB v).length = (txt b ++ numB u).take (k - (numB v).length) := by rw [hp, List.drop_left]
    simp only [List.length_append] at hk
    by_cases h2 : k - (numB v).length < (txt b).length
    · have e2 : s2 = ([], (numB v).length, 8) := by
        simp only [s2, e1, txtStep]
        rw [if_neg (by simp), hd, List.take_append_of_le_length (by omega), txt_short b [] 0 _ h2]
        rfl
      rw [e2]
      exact stay _
    · have hd2 : (txt b ++ numB u).take (k - (numB v).length) = txt b ++ (numB u).take (k - (numB v).length - (txt b).length) := by
        rw [List.take_append, List.take_of_length_le (by omega)]
      have e2 : s2 = (b, (numB v).length + (txt b).length, 0) := by
        simp only [s2, e1, txtStep]
        rw [if_neg (by simp), hd, hd2, txt_read]
        simp
      have hd3 : p.drop ((numB v).length + (txt b).length) = (numB u).take (k - (numB v).length - (txt b).length) := by
        rw [← List.drop_drop, hd, hd2, List.drop_left]
      rw [e2]
      simp only [numStep]
      rw [if_neg (by simp), hd3, num_short (by omega), if_neg (by decide)]
end Go.Proofs.Ytfaecojhkiombaa
