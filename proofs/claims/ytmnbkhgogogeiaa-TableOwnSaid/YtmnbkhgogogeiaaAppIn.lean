/-
  append of any row of bytes, inside a fence; small facts for a round that spoils what it was handed.
-/
import Derived.Test.YtmnbkhgogogeiaaVw
import Derived.Test.YtmnbkhgogogeiaaWake
import Derived.OwnWalkIn
namespace Go.Proofs.Ytmnbkhgogogeiaa
set_option linter.unusedVariables false
open Go.RowKit

theorem appRIn {F : Fence} {nn : Nat} {ops : Array Oper} {rest : List Oper} {o : Oper} {a : Act} {Q : Exit → Act → World → Prop} (hgd : o.guard = none) (s x : Operand)
    (ho : o.op = .call { callee := .builtin .append, args := #[s, x], argTypes := #[23, 23] })
    {wr : World} {B : Nat} {v vd : Value} {l d : List Nat} (hown : OwnB wr B v l) (hd : RowB wr vd d) (hB : B ≤ wr.heap.size)
    (hs : a.eval s = v) (hx : a.eval x = vd) (hlen : l.length + d.length ≤ 140737488355328)
    (h : ∀ ao co n w2, Hid ((l ++ d).length = n) → OwnB w2 B (.slice ao n co) (l ++ d) → Below B wr w2 → wpListIn F nn Try.prog ops Q rest (a.put o.dst (.slice ao n co)) w2) :
    wpListIn F nn Try.prog ops Q (o :: rest) a wr := by
  obtain ⟨i0, hi, hz0, hz1, hz2⟩ := info_parts Try.info5
  obtain ⟨ad, len, cap, rfl, hl, hc, hm, h256, hn, hcell⟩ := hd
  cases ad with
  | none =>
    obtain ⟨rfl, rfl⟩ := hn rfl
    obtain rfl : d = [] := List.eq_nil_of_length_eq_zero hl
    obtain ⟨ao, co, e⟩ := hown.shape
    have hrun := run_append_owned_none (P := Try.prog) (w := wr) B 23 o.type 5 i0 1 Try.underlying23 hi v l.length (u8s l) hown
    have hk := h ao co l.length wr (Lib.hid (by simp)) (by rw [← e, List.append_nil]; exact hown) (Below.refl _ _)
    rw [← e] at hk
    refine wpListIn_plain hgd fun K hK => ?_
    unfold Oper.wpIn
    refine ⟨?_, ?_⟩
    · simp [Oper.about, ho, resolve, Target.leads, Sem.run_pure]
    · rw [Oper.semAt_plain F _ _ (by rw [ho]; intro c hc'; cases hc')]
      simp [execOp, ho, resolve, invoke, builtin, hs, hx, hrun, Result.andThen]
      exact hK _ _ hk
  | some p =>
    refine wpListIn_append_own _ hgd s x 23 ho B 5 i0 (.int .u8 0) 1 1 Try.underlying23 hi hz0 hz1 hz2 rfl (by decide) v l.length (u8s l) hs hown p len cap (u8s d) hx (by simp [hl]) (fun j u hj => ?_) (by
      intro u hu
      simp only [u8s, List.mem_map] at hu
      obtain ⟨n, _, rfl⟩ := hu
      rfl) (by unfold maxLen; omega) (by omega) hB ?_
    · have hjl : j < d.length := by have := (List.getElem?_eq_some_iff.1 hj).1; simpa using this
      rw [u8s_get d j hjl] at hj
      cases hj
      exact hcell p rfl j hjl
    · intro o' w2 ho' hgr _
      rw [hl.symm] at ho'
      have ho2 : OwnB w2 B o' (l ++ d) := by
        unfold OwnB
        rw [List.length_append, u8s_append]
        exact ho'
      obtain ⟨ao, co, rfl⟩ := ho2.shape
      exact h ao co _ w2 (Lib.hid rfl) ho2 ((Below.refl B wr).grown hgr hB (fun k hk => hown.ownLe k hk))
theorem ownB_put {W : World} {D B : Nat} {r r' : Loop} {v : Value} {l : List Nat} (h : OwnB W B v l) (hb : Book W D r) : OwnB (W.putObj (D + 1) (.loop r')) B v l :=
  World.ownsRow.kept h (grownBy_putObj' W _ _) (.inr fun e => by
    rcases h.2 with ⟨e2, _⟩ | ⟨g, cap, cur, e2, hg, hh, _⟩
    · rw [e2] at e; cases e
    · rw [e2] at e
      obtain rfl : g = D + 1 := by simpa [Value.ownBlock] using e
      have := hb.1
      rw [hh] at this
      cases this)
theorem keepsFrom_beside {W W' : World} {own : Nat → Prop} (D : Nat) (hb : Beside own W W') (h : ∀ k, own k → ∃ cs t fr, W.heap[k]? = some (.cells cs t fr)) : KeepsFrom D W W' :=
  ⟨hb.size, fun k o _ hk ho => (hb.block k (Array.getElem?_eq_some_iff.1 hk).1 (fun hc => by
    obtain ⟨cs, t, fr, hh⟩ := h k hc
    rw [hk] at hh
    cases hh
    cases ho)).trans hk⟩
theorem own_cellsAt {w : World} {B : Nat} {v : Value} {l : List Nat} (h : OwnB w B v l) : ∀ k, v.ownBlock = some k → ∃ cs t fr, w.heap[k]? = some (.cells cs t fr) := by
  intro k hk
  rcases h.2 with ⟨e, _⟩ | ⟨g, cap, cur, e, hg, hh, _⟩
  · rw [e] at hk; cases hk
  · rw [e] at hk
    obtain rfl : g = k := by simpa [Value.ownBlock] using hk
    exact ⟨_, _, _, hh⟩
end Go.Proofs.Ytmnbkhgogogeiaa
