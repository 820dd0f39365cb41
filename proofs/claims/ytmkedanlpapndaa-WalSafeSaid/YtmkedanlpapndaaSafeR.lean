/-
  What a flush and a fall make of records on a fresh disk; which of them are followed.
-/
import Derived.Test.YtmkedanlpapndaaSafeQ
import Derived.Test.YtmkedanlpapndaaOpenA
namespace Go.Proofs.Ytmkedanlpapndaa
set_option linter.unusedVariables false
open Go.RowKit

/-- behind a fall: each cell is as it was written, or it is none -/
structure Fell (r m : Nat) (D : List (List Nat)) (S : List (List Nat)) : Prop where
  len : S.length = r + 2
  head : ∀ a, a < 2 → S.getD a [] = zeros 64
  room : numC D < r
  le : m ≤ numC D
  low : ∀ j, j < m → S.getD (2 + j) [] = cN D j
  mid : ∀ j, j < numC D → S.getD (2 + j) [] = cN D j ∨ okCell (S.getD (2 + j) []) = false
  zer : ∀ j, numC D ≤ j → j < r → okCell (S.getD (2 + j) []) = false

theorem flat_le (D : List (List Nat)) (j : Nat) : ((flatC D).getD j (0, 0, [])).2.2.length ≤ 40 := by
  rw [List.getD_eq_getElem?_getD]
  cases h : (flatC D)[j]? with
  | none => simp
  | some x =>
    have hx := List.mem_of_getElem? h
    obtain ⟨d, _, hx⟩ := List.mem_flatMap.1 hx
    obtain ⟨k, _, rfl⟩ := List.mem_map.1 hx
    exact piece_le d k
theorem cN_64 (D : List (List Nat)) (j : Nat) : (cN D j).length = 64 := sealC_len _ _ _ _ _ _ (flat_le D j)
theorem cN_ok (D : List (List Nat)) (j : Nat) (h : j < 65536) : okCell (cN D j) = true := sealC_ok _ _ _ _ _ _ (flat_le D j) (by omega) (by omega)
theorem cN_number (D : List (List Nat)) (j : Nat) (h : j < 65536) : numN (cN D j) 1 8 = j + 1 := by
  unfold cN cb
  rw [sealC_number]
  exact Nat.mod_eq_of_lt (by omega)
theorem cN_torn (D : List (List Nat)) (j n : Nat) (hn : n ≤ 64) : (cN D j).take n ++ (zeros 64).drop n = cN D j ∨ okCell ((cN D j).take n ++ (zeros 64).drop n) = false :=
  torn_cell _ _ _ _ _ _ _ (flat_le D j) (by decide) hn

theorem zip_sub {α β : Type} : ∀ (l : List α) (k : List β), ((l.zip k).map (·.1)).Sublist l := by
  intro l
  induction l with
  | nil => intro k; simp
  | cons x l ih =>
    intro k
    cases k with
    | nil => simp
    | cons y k =>
      simp only [List.zip_cons_cons, List.map_cons]
      exact (ih k).cons_cons x
theorem DskI.flush {r m : Nat} {D : List (List Nat)} {S : List (List Nat)} {W : List (Nat × List Nat)} (h : DskI r m D S W) : DskI r (numC D) D (flushed S W) [] := by
  have hnd := h.nodup
  have hf : flushed S W = (W.map fun x => (x.1, x.2, 64)).foldl (fun S z => putN S z.1 z.2.2 z.2.1) S := by
    unfold flushed
    rw [List.foldl_map]
  have hat : ∀ a, (flushed S W).getD a [] = match (W.map fun x => (x.1, x.2, 64)).find? (fun z => z.1 == a) with | some z => z.2.1.take z.2.2 ++ (S.getD a []).drop z.2.2 | none => S.getD a [] := by
    intro a
    rw [hf]
    refine fold_at _ S ?_ ?_ a
    · rw [List.map_map]; exact hnd.1
    · intro z hz
      obtain ⟨x, hx, rfl⟩ := List.mem_map.1 hz
      exact hnd.2 x hx
  have hno : ∀ a, (∀ x ∈ W, x.1 ≠ a) → (flushed S W).getD a [] = S.getD a [] := by
    intro a ha
    rw [hat a]
    have : (W.map fun x => (x.1, x.2, 64)).find? (fun z => z.1 == a) = none := by
      rw [List.find?_eq_none]
      intro z hz hc
      obtain ⟨x, hx, rfl⟩ := List.mem_map.1 hz
      exact ha x hx (by simpa using hc)
    rw [this]
  have hyes : ∀ j, m ≤ j → j < numC D → (flushed S W).getD (2 + j) [] = cN D j := by
    intro j h1 h2
    rw [hat]
    cases hq : (W.map fun x => (x.1, x.2, 64)).find? (fun z => z.1 == 2 + j) with
    | none =>
      rw [List.find?_eq_none] at hq
      have := hq (2 + j, cN D j, 64) (List.mem_map.2 ⟨(2 + j, cN D j), (find_wait h j).1 ⟨h1, h2⟩, rfl⟩)
      simp at this
    | some z =>
      have hz := List.mem_of_find?_eq_some hq
      have hz1 := List.find?_some hq
      obtain ⟨x, hx, rfl⟩ := List.mem_map.1 hz
      have e1 : x.1 = 2 + j := by simpa using hz1
      rw [h.wait] at hx
      obtain ⟨i, hi, rfl⟩ := List.mem_map.1 hx
      simp only at e1
      obtain rfl : j = m + i := by omega
      simp only
      rw [List.take_of_length_le (by rw [cN_64]; exact Nat.le_refl _), h.zer _ h1 (by have := h.room; omega)]
      simp [zeros]
  refine ⟨?_, ?_, Nat.le_refl _, h.room, ?_, ?_, by simp⟩
  · rw [flushed_len]; exact h.len
  · intro a ha
    rw [hno a]
    · exact h.head a ha
    · intro x hx
      rw [h.wait] at hx
      obtain ⟨i, hi, rfl⟩ := List.mem_map.1 hx
      simp only
      omega
  · intro j hj
    by_cases hm : j < m
    · rw [hno _ ((find_wait h j).2 (by omega))]
      exact h.low j hm
    · exact hyes j (by omega) hj
  · intro j h1 h2
    rw [hno _ ((find_wait h j).2 (by omega))]
    exact h.zer j (by have := h.le; omega) h2
theorem fold_len (Z : List ((Nat × List Nat) × Int)) : ∀ (S : List (List Nat)), (Z.foldl (fun S y => putN S y.1.1 (cl y.2) y.1.2) S).length = S.length := by
  induction Z with
  | nil => intro S; rfl
  | cons z Z ih => intro S; rw [List.foldl_cons, ih, putN_len]
theorem DskI.crash {r m : Nat} {D : List (List Nat)} {S : List (List Nat)} {W : List (Nat × List Nat)} (h : DskI r m D S W) (K : List Int) : Fell r m D (crashed S W K) := by
  have hnd := h.nodup
  have hf : crashed S W K = ((W.zip K).map fun y => (y.1.1, y.1.2, cl y.2)).foldl (fun S z => putN S z.1 z.2.2 z.2.1) S := by
    unfold crashed
    rw [List.foldl_map]
  have hlen : (crashed S W K).length = S.length := by
    unfold crashed
    exact fold_len _ S
  have hsub : ∀ y ∈ W.zip K, y.1 ∈ W := fun y hy => (zip_sub W K).subset (List.mem_map_of_mem hy)
  have hat : ∀ a, (crashed S W K).getD a [] = match ((W.zip K).map fun y => (y.1.1, y.1.2, cl y.2)).find? (fun z => z.1 == a) with | some z => z.2.1.take z.2.2 ++ (S.getD a []).drop z.2.2 | none => S.getD a [] := by
    intro a
    rw [hf]
    refine fold_at _ S ?_ ?_ a
    · rw [List.map_map]
      have : (W.zip K).map ((fun z : Nat × List Nat × Nat => z.1) ∘ fun y : (Nat × List Nat) × Int => (y.1.1, y.1.2, cl y.2)) = ((W.zip K).map (·.1)).map (·.1) := by rw [List.map_map]; rfl
      rw [this]
      exact ((zip_sub W K).map _).nodup hnd.1
    · intro z hz
      obtain ⟨y, hy, rfl⟩ := List.mem_map.1 hz
      exact hnd.2 _ (hsub y hy)
  have hno : ∀ a, (∀ x ∈ W, x.1 ≠ a) → (crashed S W K).getD a [] = S.getD a [] := by
    intro a ha
    rw [hat a]
    have : ((W.zip K).map fun y => (y.1.1, y.1.2, cl y.2)).find? (fun z => z.1 == a) = none := by
      rw [List.find?_eq_none]
      intro z hz hc
      obtain ⟨y, hy, rfl⟩ := List.mem_map.1 hz
      exact ha _ (hsub y hy) (by simpa using hc)
    rw [this]
  have hyes : ∀ j, m ≤ j → j < numC D → (crashed S W K).getD (2 + j) [] = cN D j ∨ okCell ((crashed S W K).getD (2 + j) []) = false := by
    intro j h1 h2
    rw [hat, h.zer _ h1 (by have := h.room; omega)]
    cases hq : ((W.zip K).map fun y => (y.1.1, y.1.2, cl y.2)).find? (fun z => z.1 == 2 + j) with
    | none => exact .inr ok_zero
    | some z =>
      have hz := List.mem_of_find?_eq_some hq
      have hz1 := List.find?_some hq
      obtain ⟨y, hy, rfl⟩ := List.mem_map.1 hz
      have e1 : y.1.1 = 2 + j := by simpa using hz1
      have hx := hsub y hy
      obtain ⟨⟨ya, yb⟩, yk⟩ := y
      rw [h.wait] at hx
      obtain ⟨i, hi, e⟩ := List.mem_map.1 hx
      simp only [Prod.mk.injEq] at e
      simp only at e1
      obtain rfl : j = m + i := by omega
      simp only
      rw [← e.2]
      exact cN_torn D _ _ (cl_le _)
  refine ⟨by rw [hlen]; exact h.len, ?_, h.room, h.le, ?_, ?_, ?_⟩
  · intro a ha
    rw [hno a]
    · exact h.head a ha
    · intro x hx
      rw [h.wait] at hx
      obtain ⟨i, hi, rfl⟩ := List.mem_map.1 hx
      simp only
      omega
  · intro j hj
    rw [hno _ ((find_wait h j).2 (by omega))]
    exact h.low j hj
  · intro j hj
    by_cases hm : j < m
    · left
      rw [hno _ ((find_wait h j).2 (by omega))]
      exact h.low j hm
    · exact hyes j (by omega) hj
  · intro j h1 h2
    rw [hno _ ((find_wait h j).2 (by omega)), h.zer j (by have := h.le; omega) h2]
    exact ok_zero

/-- a record's bytes, and what fills up its last cell -/
theorem piece_pad (d : List Nat) (k : Nat) (h : k * 40 ≤ d.length) : piece d k ++ zeros (40 - (piece d k).length) = ((d ++ zeros 40).drop (k * 40)).take 40 := by
  unfold piece
  rw [List.drop_append, show k * 40 - d.length = 0 by omega, List.drop_zero, List.take_append]
  congr 1
  simp only [zeros, List.take_replicate, List.length_take]
  congr 1
  omega
theorem recR_rec (L : Nat → List Nat) (r P used : Nat) (d : List Nat) (hr : used + cellsN d.length ≤ r) (hP : P + cellsN d.length ≤ r) (hr2 : r ≤ 65536) (hd : d.length ≤ 65536)
    (H : ∀ k, k < cellsN d.length → L (P + k) = sealC 1 (P + k + 1) (P + k) d.length k (piece d k) ∨ okCell (L (P + k)) = false) :
    ∀ m part, 1 ≤ part → part ≤ cellsN d.length → cellsN d.length - part < m →
      recR L r P used m part (cellsN d.length) (P + part) d.length ((d ++ zeros 40).take (40 * part)) = some (cellsN d.length, P + cellsN d.length, d) ∨
      recR L r P used m part (cellsN d.length) (P + part) d.length ((d ++ zeros 40).take (40 * part)) = none ∧ ∃ k, part ≤ k ∧ k < cellsN d.length ∧ okCell (L (P + k)) = false := by
  have hc : cellsN d.length = max 1 ((d.length + 39) / 40) := rfl
  intro m
  induction m with
  | zero => intro part _ _ h; omega
  | succ m ih =>
    intro part h1 hle hm
    rw [recR]
    by_cases hp : part < cellsN d.length
    · rw [if_pos hp, if_neg (by omega), Nat.mod_eq_of_lt (show P + part < r by omega)]
      rcases H part hp with hs | hs
      · have hpl := piece_le d part
        have hfit : fitC (L (P + part)) (P + part) part = true := by
          unfold fitC
          rw [hs, sealC_ok _ _ _ _ _ _ hpl (by omega) (by omega), sealC_behind, sealC_part, sealC_size, Nat.mod_eq_of_lt (show P + part < 256 ^ 8 by omega), Nat.mod_eq_of_lt (show part < 256 ^ 2 by omega), Nat.mod_eq_of_lt (show d.length < 256 ^ 4 by omega)]
          simp [hd]
        rw [if_pos hfit, if_neg (by omega), hs, sealC_size, Nat.mod_eq_of_lt (show d.length < 256 ^ 4 by omega), if_pos rfl, sealC_number, Nat.mod_eq_of_lt (show P + part + 1 < 256 ^ 8 by omega), sealC_data _ _ _ _ _ _ hpl, piece_pad d part (by omega)]
        have e : (d ++ zeros 40).take (40 * part) ++ ((d ++ zeros 40).drop (part * 40)).take 40 = (d ++ zeros 40).take (40 * (part + 1)) := by
          rw [Nat.mul_comm part 40, Nat.mul_add, List.take_add]
        rw [e, Nat.add_assoc P part 1]
        rcases ih (part + 1) (by omega) hp (by omega) with h | ⟨h, k, h2, h3, h4⟩
        · exact .inl h
        · exact .inr ⟨h, k, by omega, h3, h4⟩
      · right
        have hfit : fitC (L (P + part)) (P + part) part = false := by
          unfold fitC
          rw [hs]
          rfl
        rw [if_neg (by rw [hfit]; decide)]
        exact ⟨rfl, part, Nat.le_refl _, hp, hs⟩
    · left
      obtain rfl : part = cellsN d.length := by omega
      rw [if_neg (Nat.lt_irrefl _), if_neg (by omega)]
      have e : ((d ++ zeros 40).take (40 * cellsN d.length)).take d.length = d := by
        rw [List.take_take, Nat.min_eq_left (by omega), List.take_left]
      rw [e]
theorem recR_first (L : Nat → List Nat) (r P used : Nat) (d : List Nat) (hr : used + cellsN d.length ≤ r) (hP : P + cellsN d.length ≤ r) (hr2 : r ≤ 65536) (hd : d.length ≤ 65536)
    (H : ∀ k, k < cellsN d.length → L (P + k) = sealC 1 (P + k + 1) (P + k) d.length k (piece d k) ∨ okCell (L (P + k)) = false) :
    recR L r P used 3000 0 1 P 0 [] = some (cellsN d.length, P + cellsN d.length, d) ∨
      recR L r P used 3000 0 1 P 0 [] = none ∧ ∃ k, k < cellsN d.length ∧ okCell (L (P + k)) = false := by
  have h1 := cellsN_pos d.length
  have h2 := cellsN_le _ hd
  have h0 := H 0 (by omega)
  rw [Nat.add_zero] at h0
  rw [recR, if_pos (by decide), if_neg (by omega), Nat.add_zero, Nat.mod_eq_of_lt (show P < r by omega)]
  rcases h0 with hs | hs
  · have hpl := piece_le d 0
    have hfit : fitC (L P) P 0 = true := by
      unfold fitC
      rw [hs, sealC_ok _ _ _ _ _ _ hpl (by omega) (by omega), sealC_behind, sealC_part, sealC_size, Nat.mod_eq_of_lt (show P < 256 ^ 8 by omega), Nat.mod_eq_of_lt (show d.length < 256 ^ 4 by omega)]
      simp [hd]
    rw [if_pos hfit, if_pos rfl, hs, sealC_size, Nat.mod_eq_of_lt (show d.length < 256 ^ 4 by omega), sealC_number, Nat.mod_eq_of_lt (show P + 1 < 256 ^ 8 by omega), sealC_data _ _ _ _ _ _ hpl, piece_pad d 0 (by omega), Nat.zero_mul, List.drop_zero, List.nil_append]
    rcases recR_rec L r P used d hr hP hr2 hd H 2999 1 (Nat.le_refl _) h1 (by omega) with h | ⟨h, k, _, h3, h4⟩
    · exact .inl h
    · exact .inr ⟨h, k, h3, h4⟩
  · right
    have hfit : fitC (L P) P 0 = false := by
      unfold fitC
      rw [hs]
      rfl
    rw [if_neg (by rw [hfit]; decide)]
    exact ⟨rfl, 0, h1, by simpa using hs⟩

def stN (r : Nat) (D : List (List Nat)) (num : Nat) : LgS := { stD r D with number := num }
theorem folS_rec {r m : Nat} {D : List (List Nat)} {S : List (List Nat)} (h : Fell r m D S) (hr : r ≤ 65536) (hd : ∀ d ∈ D, d.length ≤ 65536) (num : Nat) : ∀ (B A : List (List Nat)), D = A ++ B → ∀ f, B.length < f →
    ∃ k, k ≤ B.length ∧ folS (fun j => S.getD (2 + j) []) f (stN r A num) = stN r (A ++ B.take k) num ∧ (k = B.length ∨ ∃ j, j < numC (A ++ B.take (k + 1)) ∧ okCell (S.getD (2 + j) []) = false) := by
  intro B
  induction B with
  | nil =>
    intro A hA f hf
    obtain ⟨f, rfl⟩ : ∃ g, f = g + 1 := ⟨f - 1, by simp at hf; omega⟩
    rw [List.append_nil] at hA
    subst hA
    refine ⟨0, Nat.le_refl _, ?_, .inl rfl⟩
    have hro := h.room
    have hz := h.zer (numC D) (Nat.le_refl _) hro
    rw [folS]
    have : recR (fun j => S.getD (2 + j) []) (stN r D num).ring (stN r D num).place (stN r D num).used 3000 0 1 (stN r D num).last 0 [] = none := by
      show recR _ r (numC D) (numC D) 3000 0 1 (numC D) 0 [] = none
      rw [recR, if_pos (by decide), if_neg (by omega), Nat.add_zero, Nat.mod_eq_of_lt hro]
      have hfit : fitC (S.getD (2 + numC D) []) (numC D) 0 = false := by
        unfold fitC
        rw [hz]
        rfl
      rw [if_neg (by rw [hfit]; decide)]
    rw [this]
    simp
  | cons d B ih =>
    intro A hA f hf
    obtain ⟨f, rfl⟩ : ∃ g, f = g + 1 := ⟨f - 1, by simp at hf; omega⟩
    have hro := h.room
    have hn : numC D = numC A + (cellsN d.length + numC B) := by rw [hA, numC_append, numC_cons]
    have hdl := hd d (by rw [hA]; simp)
    have H : ∀ k, k < cellsN d.length → S.getD (2 + (numC A + k)) [] = sealC 1 (numC A + k + 1) (numC A + k) d.length k (piece d k) ∨ okCell (S.getD (2 + (numC A + k)) []) = false := by
      intro k hk
      have h1 := h.mid (numC A + k) (by omega)
      have h2 := cN_at A B d k hk
      rw [← hA] at h2
      rw [h2] at h1
      exact h1
    rw [folS]
    rcases recR_first (fun j => S.getD (2 + j) []) r (numC A) (numC A) d (by omega) (by omega) hr hdl H with hs | ⟨hs, k, hk, hz⟩
    · have hs2 : recR (fun j => S.getD (2 + j) []) (stN r A num).ring (stN r A num).place (stN r A num).used 3000 0 1 (stN r A num).last 0 [] = some (cellsN d.length, numC A + cellsN d.length, d) := hs
      rw [hs2]
      simp only
      have hst : ({ stN r A num with ents := (stN r A num).ents ++ [⟨(stN r A num).place, (stN r A num).last, cellsN d.length, d⟩], place := ((stN r A num).place + cellsN d.length) % (stN r A num).ring, used := (stN r A num).used + cellsN d.length, last := numC A + cellsN d.length } : LgS) = stN r (A ++ [d]) num := by
        unfold stN stD
        simp only [LgS.mk.injEq, true_and]
        rw [entsOf_append, numC_append, numC_one, Nat.zero_add]
        exact ⟨rfl, Nat.mod_eq_of_lt (by omega), rfl, rfl, trivial⟩
      obtain ⟨k, hk, hfo, hor⟩ := ih (A ++ [d]) (by rw [hA]; simp) f (by simp at hf; omega)
      refine ⟨k + 1, by simp; omega, ?_, ?_⟩
      · rw [hst, hfo]
        simp
      · rcases hor with hor | ⟨j, hj, hz⟩
        · left; simp [hor]
        · right
          exact ⟨j, by simpa using hj, hz⟩
    · have hs2 : recR (fun j => S.getD (2 + j) []) (stN r A num).ring (stN r A num).place (stN r A num).used 3000 0 1 (stN r A num).last 0 [] = none := hs
      rw [hs2]
      refine ⟨0, Nat.zero_le _, by simp, .inr ⟨numC A + k, ?_, hz⟩⟩
      rw [List.take_succ_cons, List.take_zero, numC_append, numC_one]
      omega
theorem shown_nil (S : List (List Nat)) (a : Nat) : shown S [] a = S.getD a [] := shown_none S [] a (fun _ h => by cases h)
theorem numC_take_le (D : List (List Nat)) (k : Nat) : numC (D.take k) ≤ numC D := by
  have := numC_append (D.take k) (D.drop k)
  rw [List.take_append_drop] at this
  omega
theorem numC_take_mono (D : List (List Nat)) (j k : Nat) (h : j ≤ k) : numC (D.take j) ≤ numC (D.take k) := by
  have h1 := numC_take_le (D.take k) j
  rwa [List.take_take, Nat.min_eq_left h] at h1
/-- what is opened behind a fall -/
theorem Fell.opened {r m : Nat} {D : List (List Nat)} {S : List (List Nat)} (h : Fell r m D S) (hr : r ≤ 65536) (hd : ∀ d ∈ D, d.length ≤ 65536) :
    ∃ q num, q ≤ D.length ∧ num ≤ 65537 ∧ opS r S [] = stN r (D.take q) num ∧ (∀ s, s ≤ D.length → numC (D.take s) ≤ m → s ≤ q) ∧ max (maxN (ringL S []) r) (bestN (shown S []) 2).behind + 1 < 18446744073709551616 := by
  have hro := h.room
  have hL : ringL S [] = fun j => S.getD (2 + j) [] := by
    funext j
    exact shown_nil S _
  have hb : bestN (shown S []) 2 = ⟨0, 0, 0, 0⟩ := by
    have e0 : shown S [] 0 = zeros 64 := by rw [shown_nil]; exact h.head 0 (by decide)
    have e1 : shown S [] 1 = zeros 64 := by rw [shown_nil]; exact h.head 1 (by decide)
    have hz : headV (zeros 64) 0 = 0 := by decide
    simp [bestN, e0, e1, hz]
  have hmx : maxN (ringL S []) r ≤ 65536 := by
    refine maxN_le _ _ _ ?_
    intro i hi hok
    rw [hL] at hok ⊢
    simp only at hok ⊢
    by_cases hn : i < numC D
    · rcases h.mid i hn with e | e
      · rw [e, cN_number _ _ (by omega)]; omega
      · rw [e] at hok; cases hok
    · rw [h.zer i (by omega) hi] at hok; cases hok
  have ho : op0 r S [] = stN r [] 0 := by
    unfold op0
    rw [hb]
    unfold stN stD
    simp [entsOf, numC]
  have hlen : D.length ≤ numC D := by
    have : ∀ (E : List (List Nat)), E.length ≤ numC E := by
      intro E
      induction E with
      | nil => simp
      | cons d E ih =>
        have := cellsN_pos d.length
        rw [numC_cons, List.length_cons]
        omega
    exact this D
  obtain ⟨q, hq, hfo, hor⟩ := folS_rec h hr hd 0 D [] rfl (r + 1) (by omega)
  refine ⟨q, max (maxN (ringL S []) r) 0 + 1, hq, by omega, ?_, ?_, by rw [hb]; simp only; omega⟩
  · unfold opS
    rw [ho, hL, hfo, hb]
    rfl
  · intro s hs hm
    rcases hor with rfl | ⟨j, hj, hz⟩
    · exact hs
    · rcases Nat.lt_or_ge q s with hlt | hge
      · exfalso
        rw [List.nil_append] at hj
        have h1 := numC_take_mono D (q + 1) s hlt
        rw [h.low j (by omega), cN_ok _ _ (by have := h.le; omega)] at hz
        cases hz
      · exact hge
theorem DskI.fresh (n : Nat) (h : 3 ≤ n) : DskI (n - 2) 0 [] (List.replicate n (zeros 64)) [] := by
  refine ⟨by simp; omega, fun a ha => ?_, Nat.zero_le _, by simp [numC]; omega, fun j hj => by omega, fun j _ hj => ?_, by simp [numC]⟩
  · rw [List.getD_eq_getElem?_getD, List.getElem?_replicate, if_pos (by omega)]; rfl
  · rw [List.getD_eq_getElem?_getD, List.getElem?_replicate, if_pos (by omega)]; rfl
end Go.Proofs.Ytmkedanlpapndaa
