/-
  What the two sides of ViewTells have in common.
-/
import Derived.Test.YtligplnmgoailaaHdN
import Derived.Test.YtligplnmgoailaaHdM
import Derived.Test.YtligplnmgoailaaHdL
import Derived.Test.YtligplnmgoailaaHdO
import Derived.Test.YtligplnmgoailaaHdQ
import Derived.Test.YtligplnmgoailaaHdT
namespace Go.Proofs.Ytligplnmgoailaa
set_option linter.unusedVariables false
open Go.RowKit

theorem seen_key {M N : List HeldD} (h : M.map keyD = N.map keyD) : (seenL M).map keyD = (seenL N).map keyD := by
  induction M generalizing N with
  | nil => cases N with
    | nil => rfl
    | cons n r => simp at h
  | cons m q ih =>
    cases N with
    | nil => simp at h
    | cons n r =>
      simp only [List.map_cons, List.cons.injEq] at h
      have hg : m.gone = n.gone := by have := h.1; simp only [keyD, Prod.mk.injEq] at this; exact this.2.2.2.2.2.2.2.1
      have h2 := ih h.2
      unfold seenL at h2 ⊢
      simp only [List.filter_cons, ← hg]
      split
      · simp only [List.map_cons, h.1, h2]
      · exact h2
theorem seen_uids {M N : List HeldD} (h : (seenL M).map keyD = (seenL N).map keyD) : (seenL M).map (·.uid) = (seenL N).map (·.uid) := key_uid h
theorem seen_Fs {M N : List HeldD} (h : (seenL M).map keyD = (seenL N).map keyD) : (seenL M).map (·.F) = (seenL N).map (·.F) := key_F h
theorem seen_uid {L : List HeldD} {w : World} (h : ∀ x ∈ L, HeldWk w x) : ∀ n ∈ (seenL L).map (·.uid), 0 ≤ n ∧ n < 4294967296 := by
  intro n hn
  obtain ⟨x, hx, rfl⟩ := List.mem_map.1 hn
  exact (h x ((List.mem_filter.1 hx).1)).uid
theorem numK_bd {s : List (Int × Int)} {l : List Int} (hb : ∀ n ∈ l, 0 ≤ n ∧ n < 4294967296) (k : Nat) (hk : k ≤ l.length) : ∀ n ∈ numK s l k, 0 ≤ n ∧ n < 4294967296 := by
  induction k with
  | zero => intro n hn; simp [numK] at hn
  | succ k ih =>
    intro n hn
    unfold numK at hn
    rcases List.mem_append.1 hn with h | h
    · exact ih (by omega) n h
    · split at h
      · simp only [List.mem_singleton] at h
        subst h
        rw [List.getD_eq_getElem?_getD, List.getElem?_eq_getElem (by omega)]
        exact hb _ (List.getElem_mem _)
      · cases h
theorem num_both {l : List Int} {x r r' : Int} (hu : Up l) (h1 : IdxIs l x r)
    (h2 : (r' = 0 ∧ ∀ i (h : i < l.length), l[i] ≠ x) ∨ ∃ k : Nat, r' = k + 1 ∧ (∃ h : k < l.length, l[k] = x) ∧ ∀ i (h : i < l.length), i < k → l[i] ≠ x) : r' = r + 1 := by
  rcases h1 with ⟨rfl, hn⟩ | ⟨k, rfl, hk, hx⟩
  · rcases h2 with ⟨rfl, _⟩ | ⟨j, rfl, ⟨hj, hx⟩, _⟩
    · rfl
    · exact absurd hx (hn j hj)
  · rcases h2 with ⟨rfl, hn⟩ | ⟨j, rfl, ⟨hj, hxj⟩, _⟩
    · exact absurd hx (hn k hk)
    · have : k = j := by
        rcases Nat.lt_trichotomy k j with h | h | h
        · have h3 := hu.2 k (by omega)
          have h4 := up_mono hu (k + 1) j (by omega) hj
          omega
        · exact h
        · have h3 := hu.2 j (by omega)
          have h4 := up_mono hu (j + 1) k (by omega) hk
          omega
      subst this; rfl
/-- the cells of a folder's block -/
theorem Rw.six {w : World} {p : Nat} {a b c d e f : Value} {t : TypeId} (r : Rw w p #[a, b, c, d, e, f] t) : w.cell? ⟨p, 0, none⟩ = some a ∧ w.cell? ⟨p, 1, none⟩ = some b ∧ w.cell? ⟨p, 2, none⟩ = some c ∧ w.cell? ⟨p, 3, none⟩ = some d ∧ w.cell? ⟨p, 4, none⟩ = some e ∧ w.cell? ⟨p, 5, none⟩ = some f :=
  ⟨r.cell 0 _ rfl, r.cell 1 _ rfl, r.cell 2 _ rfl, r.cell 3 _ rfl, r.cell 4 _ rfl, r.cell 5 _ rfl⟩
end Go.Proofs.Ytligplnmgoailaa
