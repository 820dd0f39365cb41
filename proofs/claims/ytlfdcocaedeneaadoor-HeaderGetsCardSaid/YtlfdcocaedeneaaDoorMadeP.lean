/-
  HeaderMade, purely: a header that is made of fields is told as these.
-/
import Derived.Test.YtlfdcocaedeneaaDoorFieldsP
namespace Go.Proofs.YtlfdcocaedeneaaDoor
set_option linter.unusedVariables false
open Go.RowKit Go.Lib

/-- a text's bytes as numbers -/
def natsOf (s : ByteArray) : List Nat := s.data.toList.map UInt8.toNat
theorem strT_natsOf (s : ByteArray) : strT (natsOf s) = s := by
  unfold strT natsOf
  apply ByteArray.ext
  simp [List.map_map, Function.comp_def]
theorem natsOf_append (a b : ByteArray) : natsOf (a ++ b) = natsOf a ++ natsOf b := by simp [natsOf, ByteArray.data_append]
theorem natsOf_lt (s : ByteArray) : ∀ c ∈ natsOf s, c < 256 := by
  intro c hc
  obtain ⟨x, _, rfl⟩ := List.mem_map.1 hc
  exact x.toNat_lt
theorem natsOf_length (s : ByteArray) : (natsOf s).length = s.size := by simp [natsOf]

theorem aheadN_all (d : Nat) (z r : List Nat) (h : ∀ c ∈ z, c ≠ d) : aheadN d (z ++ d :: r) = z.length := by
  induction z with
  | nil => simp [aheadN]
  | cons y z ih =>
    have h1 := h y (List.mem_cons_self ..)
    have := ih fun c hc => h c (List.mem_cons_of_mem _ hc)
    simp only [aheadN, List.cons_append, List.takeWhile_cons] at this ⊢
    simp [h1, this]
theorem lineX_crlf {y : List Nat} (h : ∀ c ∈ y, c ≠ 10) : LineP (y ++ [13, 10]) ∧ lineX (y ++ [13, 10]) = y := by
  have e : y ++ [13, 10] = (y ++ [13]) ++ 10 :: [] := by simp
  have ha : aheadN 10 (y ++ [13, 10]) = y.length + 1 := by
    rw [e, aheadN_all 10 (y ++ [13]) [] (fun c hc => by
      rcases List.mem_append.1 hc with h1 | h1
      · exact h c h1
      · simp at h1; omega)]
    simp
  refine ⟨by unfold LineP; rw [ha]; simp, ?_⟩
  unfold lineX
  have e2 : (y ++ [13, 10]).take (y.length + 1) = y ++ [13] := by
    rw [e, List.take_append_of_le_length (by simp)]
    rw [List.take_of_length_le (by simp)]
  rw [ha, e2]
  unfold trimN
  rw [if_pos (by simp)]
  simp

/-- what a field is made of -/
def x1 (n t : List Nat) : List Nat := n ++ [58, 32] ++ t ++ [13, 10]
def x2 (t : List Nat) : List Nat := [32, 9] ++ t ++ [32] ++ [13, 10]
structure OkN (n : List Nat) : Prop where
  ne : n ≠ []
  ok : ∀ c ∈ n, 33 ≤ c ∧ c ≤ 126 ∧ c ≠ 58
def OkT (t : List Nat) : Prop := ∀ c ∈ t, 32 < c
def mkF (p : List Nat × List Nat) : Fd := ⟨strN (p.1.map lowN), [32] ++ p.2 ++ ([32, 9] ++ p.2 ++ [32]), x1 p.1 p.2 ++ x2 p.2⟩
theorem runR_field {n t : List Nat} (hn : OkN n) (ht : OkT t) (s : List Fd × Option Fd) (r : List Nat) : runR s (x1 n t ++ (x2 t ++ r)) = runR (s.1 ++ s.2.toList, some (mkF (n, t))) r := by
  obtain ⟨l1, e1⟩ := lineX_crlf (y := n ++ [58, 32] ++ t) (fun c hc => by
    simp only [List.mem_append, List.mem_cons, List.not_mem_nil, or_false] at hc
    rcases hc with (h | h | h) | h
    · have := hn.ok c h; omega
    · omega
    · omega
    · have := ht c h; omega)
  obtain ⟨l2, e2⟩ := lineX_crlf (y := [32, 9] ++ t ++ [32]) (fun c hc => by
    simp only [List.mem_append, List.mem_cons, List.not_mem_nil, or_false] at hc
    rcases hc with ((h | h) | h) | h
    · omega
    · omega
    · have := ht c h; omega
    · omega)
  have n0 : n ++ [58, 32] ++ t ≠ [] := by simp
  have n1 : [32, 9] ++ t ++ [32] ≠ [] := by simp
  obtain ⟨d, m, rfl⟩ : ∃ d m, n = d :: m := by
    cases n with
    | nil => exact absurd rfl hn.ne
    | cons d m => exact ⟨d, m, rfl⟩
  have hd := hn.ok d (List.mem_cons_self ..)
  have ha : aheadN 58 (d :: m ++ [58, 32] ++ t) = (d :: m).length := by
    have := aheadN_all 58 (d :: m) (32 :: t) (fun c hc => (hn.ok c hc).2.2)
    simpa using this
  have hnm : nameN (d :: m ++ [58, 32] ++ t) = some (d :: m).length := by
    have hall : ∀ c ∈ (d :: m ++ [58, 32] ++ t).take (d :: m).length, nameC c = true := by
      intro c hc
      rw [List.append_assoc, List.take_append_of_le_length (Nat.le_refl _), List.take_length] at hc
      have := hn.ok c hc
      simp [nameC]
      exact ⟨by omega, by omega⟩
    unfold nameN
    rw [ha, if_pos ⟨by simp, by simp, hall⟩]
  have hg1 : goesB (d :: m ++ [58, 32] ++ t) = false := by
    unfold goesB
    have g1 : d ≠ 32 := by omega
    have g2 : d ≠ 9 := by omega
    simp [g1, g2]
  have hg2 : goesB ([32, 9] ++ t ++ [32]) = true := rfl
  unfold x1 x2
  rw [runR_line l1, e1, if_neg n0, runR_line l2, e2, if_neg n1]
  congr 1
  have hs1 : stepF s (d :: m ++ [58, 32] ++ t ++ [13, 10]) (d :: m ++ [58, 32] ++ t) = (s.1 ++ s.2.toList, some ⟨strN ((d :: m).map lowN), [32] ++ t, d :: m ++ [58, 32] ++ t ++ [13, 10]⟩) := by
    unfold stepF
    rw [hg1, hnm]
    simp only [Bool.false_eq_true, if_false, Option.map_some]
    congr 3
    · unfold nameT
      rw [hnm]
      simp only
      rw [List.append_assoc, List.take_append_of_le_length (Nat.le_refl _), List.take_length]
    · rw [List.append_assoc, List.drop_append]
      simp
  rw [hs1]
  unfold stepF
  rw [hg2]
  simp only [if_true, Option.map_some]
  rfl

def flatF (P : List (List Nat × List Nat)) : List Nat := P.flatMap fun p => x1 p.1 p.2 ++ x2 p.2
theorem line_end (r : List Nat) : LineP [13, 10] ∧ lineX [13, 10] = [] := lineX_crlf (y := []) (by simp)
theorem made_run (body : List Nat) : ∀ (P : List (List Nat × List Nat)) (s : List Fd × Option Fd), (∀ p ∈ P, OkN p.1 ∧ OkT p.2) →
    (runR s (flatF P ++ ([13, 10] ++ body))).1 ++ (runR s (flatF P ++ ([13, 10] ++ body))).2.toList = s.1 ++ s.2.toList ++ P.map mkF := by
  intro P
  induction P with
  | nil =>
    intro s _
    rw [show flatF [] ++ ([13, 10] ++ body) = [13, 10] ++ body from rfl, runR_line (line_end body).1, if_pos (line_end body).2]
    simp
  | cons p P ih =>
    intro s h
    have hp := h p (List.mem_cons_self ..)
    have e : flatF (p :: P) ++ ([13, 10] ++ body) = x1 p.1 p.2 ++ (x2 p.2 ++ (flatF P ++ ([13, 10] ++ body))) := by simp [flatF]
    rw [e, runR_field hp.1 hp.2, ih _ fun q hq => h q (List.mem_cons_of_mem _ hq)]
    simp
theorem made_split (body : List Nat) : ∀ (P : List (List Nat × List Nat)), (∀ p ∈ P, OkN p.1 ∧ OkT p.2) → splitR (flatF P ++ ([13, 10] ++ body)) = (flatF P ++ [13, 10]).length := by
  intro P
  induction P with
  | nil =>
    intro _
    rw [show flatF [] ++ ([13, 10] ++ body) = [13, 10] ++ body from rfl, splitR_line (line_end body).1, if_pos (line_end body).2]
    rfl
  | cons p P ih =>
    intro h
    have hp := h p (List.mem_cons_self ..)
    obtain ⟨l1, e1⟩ := lineX_crlf (y := p.1 ++ [58, 32] ++ p.2) (fun c hc => by
      simp only [List.mem_append, List.mem_cons, List.not_mem_nil, or_false] at hc
      rcases hc with (h | h | h) | h
      · have := hp.1.ok c h; omega
      · omega
      · omega
      · have := hp.2 c h; omega)
    obtain ⟨l2, e2⟩ := lineX_crlf (y := [32, 9] ++ p.2 ++ [32]) (fun c hc => by
      simp only [List.mem_append, List.mem_cons, List.not_mem_nil, or_false] at hc
      rcases hc with ((h | h) | h) | h
      · omega
      · omega
      · have := hp.2 c h; omega
      · omega)
    have e : flatF (p :: P) ++ ([13, 10] ++ body) = x1 p.1 p.2 ++ (x2 p.2 ++ (flatF P ++ ([13, 10] ++ body))) := by simp [flatF]
    rw [e]
    unfold x1 x2
    rw [splitR_line l1, e1, if_neg (by simp), splitR_line l2, e2, if_neg (by simp), ih fun q hq => h q (List.mem_cons_of_mem _ hq)]
    simp [flatF, x1, x2]
    omega
/-- a text between blanks, cut -/
theorem cut_made (t : List Nat) (h : ∀ c ∈ t, 32 < c ∧ c < 256) : cutT ([32] ++ t ++ ([32, 9] ++ t ++ [32])) = if t = [] then ⟨#[]⟩ else strT (t ++ [32, 9] ++ t) := by
  unfold cutT
  by_cases h0 : t = []
  · subst h0; rfl
  · rw [if_neg h0]
    have hb : ∀ c ∈ t.map UInt8.ofNat, ([32, 9] : List UInt8).contains c = false := by
      intro c hc
      obtain ⟨k, hk, rfl⟩ := List.mem_map.1 hc
      have := h k hk
      have e : (UInt8.ofNat k).toNat = k := by simp; omega
      have n1 : ¬ UInt8.ofNat k = 32 := fun e2 => by rw [e2] at e; simp at e; omega
      have n2 : ¬ UInt8.ofNat k = 9 := fun e2 => by rw [e2] at e; simp at e; omega
      simp [n1, n2]
    have e : (strT ([32] ++ t ++ ([32, 9] ++ t ++ [32]))).data.toList = 32 :: (t.map UInt8.ofNat ++ [32, 9] ++ t.map UInt8.ofNat) ++ [32] := by simp [strT]
    rw [e]
    have e3 : strT (t ++ [32, 9] ++ t) = ⟨(t.map UInt8.ofNat ++ [32, 9] ++ t.map UInt8.ofNat).toArray⟩ := by simp [strT]
    rw [e3]
    obtain ⟨u, hu⟩ : ∃ u, t.map UInt8.ofNat = u := ⟨_, rfl⟩
    rw [hu] at hb ⊢
    have hu0 : u ≠ [] := by intro e; subst e; simp at hu; exact h0 hu
    congr 2
    unfold trimS trimLeftS trimRightS
    obtain ⟨q, z, rfl⟩ : ∃ q z, u = q ++ [z] := ⟨u.dropLast, u.getLast hu0, (List.dropLast_concat_getLast hu0).symm⟩
    have hz : ([32, 9] : List UInt8).contains z = false := hb z (by simp)
    have hrev : (32 :: (q ++ [z] ++ [32, 9] ++ (q ++ [z])) ++ [32]).reverse = 32 :: z :: (32 :: (q ++ [z] ++ [32, 9] ++ q)).reverse := by simp
    rw [hrev]
    have h32 : ([32, 9] : List UInt8).contains 32 = true := rfl
    rw [List.dropWhile_cons, if_pos h32, List.dropWhile_cons, if_neg (by rw [hz]; simp)]
    have hrev2 : (z :: (32 :: (q ++ [z] ++ [32, 9] ++ q)).reverse).reverse = 32 :: (q ++ [z] ++ [32, 9] ++ (q ++ [z])) := by simp
    rw [hrev2, List.dropWhile_cons, if_pos h32]
    cases q with
    | nil => rw [show ([] ++ [z] ++ [32, 9] ++ ([] ++ [z]) : List UInt8) = z :: ([32, 9] ++ [z]) from rfl, List.dropWhile_cons, if_neg (by rw [hz]; simp)]
    | cons c q =>
      have hc : ([32, 9] : List UInt8).contains c = false := hb c (by simp)
      rw [show ((c :: q) ++ [z] ++ [32, 9] ++ ((c :: q) ++ [z]) : List UInt8) = c :: (q ++ [z] ++ [32, 9] ++ ((c :: q) ++ [z])) from rfl, List.dropWhile_cons, if_neg (by rw [hc]; simp)]
end Go.Proofs.YtlfdcocaedeneaaDoor
