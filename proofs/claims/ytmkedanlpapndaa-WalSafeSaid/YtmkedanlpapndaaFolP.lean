/-
  follow, as a function.
-/
import Derived.Test.YtmkedanlpapndaaRec
import Derived.Test.YtmkedanlpapndaaSafeP
namespace Go.Proofs.Ytmkedanlpapndaa
set_option linter.unusedVariables false
open Go.RowKit

/-- follow, as a function -/
def folS (L : Nat → List Nat) : Nat → LgS → LgS
  | 0, s => s
  | k + 1, s =>
    match recR L s.ring s.place s.used 3000 0 1 s.last 0 [] with
    | none => s
    | some (c, n, data) => folS L k { s with ents := s.ents ++ [⟨s.place, s.last, c, data⟩], place := (s.place + c) % s.ring, used := s.used + c, last := n }
theorem recR_some (L : Nat → List Nat) (ring place used : Nat) : ∀ m part cells last size data c n d, 1 ≤ cells → recR L ring place used m part cells last size data = some (c, n, d) → used + c ≤ ring ∧ 1 ≤ c := by
  intro m
  induction m with
  | zero => intro _ _ _ _ _ _ _ _ _ h; simp [recR] at h
  | succ m ih =>
    intro part cells last size data c n d h1 h
    rw [recR] at h
    by_cases hpc : part < cells
    · rw [if_pos hpc] at h
      by_cases hr : ring < used + cells
      · rw [if_pos hr] at h; cases h
      · rw [if_neg hr] at h
        by_cases hf : fitC (L ((place + part) % ring)) last part = true
        · rw [if_pos hf] at h
          by_cases hp : part = 0
          · rw [if_pos hp] at h
            exact ih _ _ _ _ _ _ _ _ (cellsN_pos _) h
          · rw [if_neg hp] at h
            split at h
            · exact ih _ _ _ _ _ _ _ _ h1 h
            · cases h
        · rw [if_neg hf] at h; cases h
    · rw [if_neg hpc] at h
      by_cases hr : ring < used + cells
      · rw [if_pos hr] at h; cases h
      · rw [if_neg hr] at h
        simp only [Option.some.injEq, Prod.mk.injEq] at h
        obtain ⟨rfl, -, -⟩ := h
        exact ⟨by omega, h1⟩

theorem SecL.but {w w' : World} {v : Value} {n pl : Nat} {L : Nat → List Nat} {dp : Option Addr} {s : LgS} (h : SecL w v n L) (hl : LgV w pl (.pointer dp) (.slice none 0 0) s false) (hb : Beside (fun k => k = pl) w w') (hne : v.ownBlock ≠ some pl) : SecL w' v n L := by
  obtain ⟨b, off, cap, rfl, h1, h2, h3⟩ := h
  have hbp : b ≠ pl := fun e => hne (by rw [e]; rfl)
  refine ⟨b, off, cap, rfl, h1, h2, fun i hi => ?_⟩
  obtain ⟨a, c, k1, k2, k3⟩ := h3 i hi
  refine ⟨a, c, ?_, ?_, k3⟩
  · have hlt := World.block_lt_of_cell? w _ k1
    unfold World.cell? at k1 ⊢
    rw [hb.block _ hlt hbp]
    exact k1
  · obtain ⟨x, len, cap, e, g1, g2, g3, g4, g5, g6⟩ := k2
    refine ⟨x, len, cap, e, g1, g2, g3, g4, g5, fun y hy i hi => ?_⟩
    have hc := g6 y hy i hi
    have hlt := World.block_lt_of_cell? w _ hc
    have hn2 : (y.add i).block ≠ pl := by
      intro e
      unfold World.cell? at hc
      unfold LgV at hl
      rw [e, hl] at hc
      simp only at hc
      generalize (y.add i).off = o at hc
      generalize (L _)[i] = q at hc
      rcases o with _ | _ | _ | _ | _ | _ | _ | _ | _ | _ | _ | _ | o
      all_goals simp at hc
    unfold World.cell? at hc ⊢
    rw [hb.block _ hlt hn2]
    exact hc
end Go.Proofs.Ytmkedanlpapndaa
