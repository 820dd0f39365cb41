/-
  Both feeds: the reference's is asked.
-/
import Derived.Test.YtgafalobbhoaoaaDuo
import Derived.Test.YtgafalobbhoaoaaRNext
namespace Go.Proofs.Ytgafalobbhoaoaa
set_option linter.unusedVariables false
open Go.RowKit

theorem run_len (R : List Nat) : ∀ s : St, (runS s R).2.1.length ≤ R.length ∧ (runS s R).2.2.1 ≤ 3 := by
  induction R with
  | nil => intro s; unfold runS; simp
  | cons x R ih =>
    intro s
    have h3 := step_kind s x
    unfold runS
    by_cases h0 : (stepS s x).2 = 0
    · rw [if_pos h0]
      have := ih (stepS s x).1
      simp only [List.length_cons]
      omega
    · rw [if_neg h0]
      split
      · simp
      · simp only [List.length_cons]
        omega

section
variable {w wr w' : World} {p q : Nat} {s1 s2 : St} {R1 R2 : List Nat} {X : Nat → Prop}

theorem Duo.rask (k : Duo w wr p q s1 R1 s2 R2 X) (hR : R2.length ≤ 2000000) {s' : St} {R' out : List Nat} {kind : Nat} (hrun : runS s2 R2 = (s', R', kind, out)) :
    Calls Try.prog 15 #[.pointer (some ⟨q, 0, none⟩)] wr fun e w' => ∃ o, e = .returned (.tuple #[o, .int .i64 (kind : Int)]) ∧ Duo w w' p q s1 R1 s' R' X ∧ RowB w' o out ∧ (∀ b, X b → w'.heap[b]? = wr.heap[b]?) := by
  obtain ⟨r, h, iv, c, t, T, lo, li, af, k⟩ := k
  have hc := rnext_any q iv c t s2 T lo li af R2 k.ok2 wr k.rf k.r2 (by omega)
  rw [hrun] at hc
  refine hc.mono ?_
  rintro e w2 ⟨o, iv', c', t', T', lo', li', af', rfl, rf, hr, hiv, ho, ft, mc, mt⟩
  have hbs : Beside (QB q iv c t) wr w2 := ⟨ft.os, ft.tape, ft.output, ft.size, fun b hb hn => ft.block b hb (fun e => hn (.inl e)) (fun e => hn (.inr (.inr (.inl e)))) (fun e => hn (.inr (.inr (.inr e))))⟩
  have hok : Ok s' := by
    have := ok_run k.ok2 R2 k.r2.1
    rw [hrun] at this
    exact this
  have kk := k.refr hbs rf hok hr (fun b hb => by
    rcases hb with hb | hb | hb | hb
    · exact .inl (.inl hb)
    · rw [hiv] at hb; exact .inl (.inr (.inl hb))
    · rcases mc with m | m
      · rw [m] at hb; exact .inl (.inr (.inr (.inl hb)))
      · exact .inr (m b hb)
    · rcases mt with m | m
      · rw [m] at hb; exact .inl (.inr (.inr (.inr hb)))
      · exact .inr (m b hb))
  exact ⟨o, rfl, ⟨_, _, _, _, _, _, _, _, _, kk⟩, ho, fun b hx => hbs.block b (k.frn b hx).2.1 (k.frn b hx).2.2.2⟩
end
end Go.Proofs.Ytgafalobbhoaoaa
