/-
  Plain laws: the reference's reader, byte by byte, and what both Decodes answer.
-/
import Derived.Test.YtcddppgnmephnaaDoorRVal
import Derived.Test.YtcddppgnmephnaaDoorBackW
namespace Go.Proofs.YtcddppgnmephnaaDoor
set_option linter.unusedVariables false
open Go.RowKit Go.Lib

def farB : Rd → List UInt8 → Option (Rd × List UInt8)
  | _, [] => none
  | s, c :: cs => if c = 45 then some (s, cs) else match digVal c.toNat with
    | none => none
    | some d => match dS s d with
      | none => none
      | some t => farB t cs
theorem farB_len : ∀ (l : List UInt8) (s t : Rd) (r : List UInt8), farB s l = some (t, r) → r.length < l.length
  | [], s, t, r, h => by cases h
  | c :: cs, s, t, r, h => by
    unfold farB at h
    split at h
    · obtain ⟨-, rfl⟩ := Prod.mk.inj (Option.some.inj h)
      simp
    · split at h
      · cases h
      · split at h
        · cases h
        · have := farB_len cs _ _ _ h
          simp
          omega
def wireB (c : UInt8) : Bool := decide (32 ≤ c.toNat) && decide (c.toNat ≤ 126)
/-- behind a piece -/
def contF (K : List UInt8 → Option (List UInt8)) (o : List UInt8) : Option (Rd × List UInt8) → Option (List UInt8)
  | none => none
  | some (t, rest) => if t.first = 0 then (K rest).map ((o ++ t.out) ++ ·) else none
def readBF : Nat → List UInt8 → Option (List UInt8)
  | _, [] => some []
  | 0, _ :: _ => none
  | f + 1, c :: cs => if wireB c = false then none else if c ≠ 38 then (readBF f cs).map (c :: ·) else
      if cs.head? = some 45 then (readBF f cs.tail).map (38 :: ·) else contF (readBF f) [] (farB r0 cs)
def readB (l : List UInt8) : Option (List UInt8) := readBF l.length l
theorem readBF_fuel : ∀ (n m : Nat) (l : List UInt8), l.length ≤ n → l.length ≤ m → readBF n l = readBF m l
  | n, m, [], _, _ => by cases n <;> cases m <;> rfl
  | 0, _, c :: cs, h, _ => by simp at h
  | _ + 1, 0, c :: cs, _, h => by simp at h
  | n + 1, m + 1, c :: cs, hn, hm => by
    simp only [List.length_cons] at hn hm
    have ht : cs.tail.length ≤ cs.length := by simp
    unfold readBF
    rw [readBF_fuel n m cs (by omega) (by omega), readBF_fuel n m cs.tail (by omega) (by omega)]
    have hc : contF (readBF n) [] (farB r0 cs) = contF (readBF m) [] (farB r0 cs) := by
      cases hf : farB r0 cs with
      | none => rfl
      | some x =>
        obtain ⟨t, rest⟩ := x
        have := farB_len cs r0 t rest hf
        simp only [contF]
        rw [readBF_fuel n m rest (by omega) (by omega)]
    rw [hc]
theorem readB_nil : readB [] = some [] := rfl
theorem readB_bad (c : UInt8) (cs : List UInt8) (h : wireB c = false) : readB (c :: cs) = none := by
  show readBF (cs.length + 1) (c :: cs) = _
  unfold readBF
  rw [if_pos h]
theorem readB_plain (c : UInt8) (cs : List UInt8) (h : wireB c = true) (h2 : c ≠ 38) : readB (c :: cs) = (readB cs).map (c :: ·) := by
  show readBF (cs.length + 1) (c :: cs) = _
  unfold readBF
  rw [if_neg (by rw [h]; decide), if_pos h2]
  rfl
theorem readB_and (cs : List UInt8) (h : cs.head? = some 45) : readB (38 :: cs) = (readB cs.tail).map (38 :: ·) := by
  show readBF (cs.length + 1) (38 :: cs) = _
  unfold readBF
  rw [if_neg (by decide), if_neg (by simp), if_pos h]
  rw [readBF_fuel cs.length cs.tail.length cs.tail (by simp) (Nat.le_refl _)]
  rfl
theorem contF_fuel (n : Nat) (o : List UInt8) (s : Rd) (cs : List UInt8) (h : cs.length ≤ n) : contF (readBF n) o (farB s cs) = contF readB o (farB s cs) := by
  cases hf : farB s cs with
  | none => rfl
  | some x =>
    obtain ⟨t, rest⟩ := x
    have := farB_len cs s t rest hf
    simp only [contF]
    rw [readBF_fuel n rest.length rest (by omega) (Nat.le_refl _)]
    rfl
theorem readB_far (cs : List UInt8) (h : cs.head? ≠ some 45) : readB (38 :: cs) = contF readB [] (farB r0 cs) := by
  show readBF (cs.length + 1) (38 :: cs) = _
  unfold readBF
  rw [if_neg (by decide), if_neg (by simp), if_neg h, contF_fuel _ _ _ _ (Nat.le_refl _)]
theorem contF_map (K : List UInt8 → Option (List UInt8)) (o : List UInt8) (x : Option (Rd × List UInt8)) : (contF K [] x).map (o ++ ·) = contF K o x := by
  cases x with
  | none => rfl
  | some y =>
    obtain ⟨t, rest⟩ := y
    simp only [contF]
    split
    · rw [map_map_app]; simp
    · rfl

theorem farB_none : ∀ (l : List UInt8) (s : Rd), cutAt l = none → farB s l = none
  | [], s, _ => rfl
  | c :: cs, s, h => by
    unfold cutAt at h
    split at h
    · cases h
    · rename_i hc
      split at h
      · rename_i h2
        unfold farB
        rw [if_neg hc]
        cases digVal c.toNat with
        | none => rfl
        | some d =>
          simp only
          cases dS s d with
          | none => rfl
          | some t => exact farB_none cs t h2
      · cases h
theorem farB_some : ∀ (l : List UInt8) (s : Rd) (a b : List UInt8), cutAt l = some (a, b) → farB s l = (farR s (a.map (·.toNat))).map (·, b)
  | [], s, a, b, h => by cases h
  | c :: cs, s, a, b, h => by
    unfold cutAt at h
    split at h
    · rename_i hc
      obtain ⟨rfl, rfl⟩ := Prod.mk.inj (Option.some.inj h)
      simp [farB, hc, farR]
    · rename_i hc
      split at h
      · cases h
      · rename_i a' b' h2
        obtain ⟨rfl, rfl⟩ := Prod.mk.inj (Option.some.inj h)
        unfold farB
        rw [if_neg hc]
        simp only [List.map_cons, farR]
        cases digVal c.toNat with
        | none => rfl
        | some d =>
          simp only
          cases dS s d with
          | none => rfl
          | some t => exact farB_some cs t a' _ h2
theorem runes_wire : ∀ l : List UInt8, Wire l → runesD l = l.map (·.toNat)
  | [], _ => rfl
  | c :: cs, h => by
    have hc : c.toNat < 128 := by have := h c (by simp); omega
    rw [runesD_step _ (by simp), decodeL_ascii c cs hc]
    simp only [List.drop_succ_cons, List.drop_zero, List.map_cons]
    rw [runes_wire cs (fun d hd => h d (by simp [hd]))]
theorem wireB_of {c : UInt8} (h : 32 ≤ c.toNat ∧ c.toNat ≤ 126) : wireB c = true := by
  simp [wireB, h]
theorem readB_wire : ∀ (n : Nat) (l : List UInt8), l.length ≤ n → Wire l → readB l = readD l
  | _, [], _, _ => rfl
  | 0, c :: cs, h, _ => by simp at h
  | n + 1, c :: cs, h, hw => by
    simp only [List.length_cons] at h
    have hcw := wireB_of (hw c (by simp))
    have hws : Wire cs := fun d hd => hw d (by simp [hd])
    by_cases h38 : c = 38
    · subst h38
      rw [readD_and]
      by_cases h45 : cs.head? = some 45
      · obtain ⟨r, rfl⟩ : ∃ r, cs = 45 :: r := by
          cases cs with
          | nil => simp at h45
          | cons x xs => simp at h45; exact ⟨xs, by rw [h45]⟩
        rw [readB_and _ h45]
        simp only [cutAt, if_true, List.tail_cons]
        rw [readB_wire n r (by simp at h; omega) (fun d hd => hws d (by simp [hd]))]
      · rw [readB_far cs h45]
        cases hc : cutAt cs with
        | none => rw [farB_none cs r0 hc]; rfl
        | some x =>
          obtain ⟨a, b⟩ := x
          obtain ⟨_, hcs⟩ := cutAt_some cs a b hc
          have ha : a ≠ [] := by
            rintro rfl
            rw [hcs] at h45
            simp at h45
          have hwa : Wire a := fun d hd => hws d (by rw [hcs]; simp [hd])
          have hwb : Wire b := fun d hd => hws d (by rw [hcs]; simp [hd])
          simp only
          rw [if_neg ha, farB_some cs r0 a b hc]
          unfold farD
          rw [runes_wire a hwa]
          cases farR r0 (a.map (·.toNat)) with
          | none => rfl
          | some s =>
            simp only [Option.map_some, contF]
            by_cases h0 : s.first = 0
            · rw [if_pos h0, if_pos h0]
              simp only [List.nil_append]
              have hbl : b.length ≤ n := by rw [hcs] at h; simp at h; omega
              rw [readB_wire n b hbl hwb]
            · rw [if_neg h0, if_neg h0]
    · rw [readB_plain c cs hcw h38, readD_plain c cs h38, readB_wire n cs (by omega) hws]
theorem readB_enc (n : List UInt8) (h : validD n = true) : readB (encS n) = some n := by
  rw [readB_wire _ _ (Nat.le_refl _) (wire_enc n), read_enc n h]
/-- the reference's answer is the program's -/
theorem decS_ref (l : List UInt8) : (match readB l with | none => none | some n => if validD n = true ∧ encS n = l then some n else none) = decS l := by
  cases hd : decS l with
  | some n =>
    obtain ⟨h1, h2⟩ := decS_some l n hd
    have := readB_enc n h1
    rw [h2] at this
    rw [this]
    simp [h1, h2]
  | none =>
    cases hb : readB l with
    | none => rfl
    | some n =>
      simp only
      rw [if_neg]
      rintro ⟨h1, h2⟩
      have := decS_enc n h1
      rw [h2, hd] at this
      cases this
end Go.Proofs.YtcddppgnmephnaaDoor
