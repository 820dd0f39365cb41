/-
  The contract of Next, at any state and any bytes.
-/
import Derived.Test.YtgafalobbhoaoaaLine
namespace Go.Proofs.Ytgafalobbhoaoaa
set_option linter.unusedVariables false
open Go.RowKit

/-- a tail of a row of the feed's own: what Next has not gone through -/
def RestB (w : World) (r : Value) (R : List Nat) : Prop :=
  (∀ n ∈ R, n < 256) ∧ ((r = .slice none 0 0 ∧ R = []) ∨
  ∃ g off cap cur, r = .slice (some ⟨g, off, none⟩) R.length cap ∧ w.heap[g]? = some (.cells cur 5 (0, 0)) ∧ off + cap ≤ cur.size ∧ R.length ≤ cap ∧ cap ≤ maxLen ∧ (cur.toList.drop off).take R.length = u8s R)

theorem RestB.nil (w : World) : RestB w (.slice none 0 0) [] := ⟨by simp, .inl ⟨rfl, rfl⟩⟩
theorem RestB.of_own {w : World} {B : Nat} {r : Value} {R : List Nat} (h : OwnB w B r R) (hb : ∀ n ∈ R, n < 256) : RestB w r R := by
  refine ⟨hb, ?_⟩
  rcases h.2 with ⟨rfl, h0⟩ | ⟨g, cap, cur, rfl, _, hh, hn, hm, hs, ht⟩
  · exact .inl ⟨rfl, List.eq_nil_of_length_eq_zero h0⟩
  · exact .inr ⟨g, 0, cap, cur, rfl, hh, by omega, hn, hm, by simpa using ht⟩
theorem RestB.keep {w w' : World} {r : Value} {R : List Nat} (h : RestB w r R) (hk : ∀ g, r.ownBlock = some g → w'.heap[g]? = w.heap[g]?) : RestB w' r R := by
  refine ⟨h.1, ?_⟩
  rcases h.2 with h2 | ⟨g, off, cap, cur, rfl, hh, k⟩
  · exact .inl h2
  · exact .inr ⟨g, off, cap, cur, rfl, by rw [hk g rfl]; exact hh, k⟩
theorem RestB.lt {w : World} {r : Value} {R : List Nat} (h : RestB w r R) : ∀ g, r.ownBlock = some g → g < w.heap.size := by
  intro g hg
  rcases h.2 with ⟨rfl, _⟩ | ⟨g', off, cap, cur, rfl, hh, k⟩
  · simp [Value.ownBlock] at hg
  · simp [Value.ownBlock] at hg; subst hg; exact (Array.getElem?_eq_some_iff.1 hh).1
theorem RestB.ne_feed {w : World} {p : Nat} {f r h v : Value} {seg len lits left ahead : Int} {R : List Nat} (k : FeedB w p f r h seg len lits left ahead) (o : RestB w v R) : v.ownBlock ≠ some p := by
  intro e
  rcases o.2 with ⟨rfl, _⟩ | ⟨g, off, cap, cur, rfl, hh, _⟩
  · simp [Value.ownBlock] at e
  · simp [Value.ownBlock] at e
    subst e
    rw [k.row] at hh
    simp at hh
theorem RestB.cell {w : World} {g off n cap : Nat} {R : List Nat} (h : RestB w (.slice (some ⟨g, off, none⟩) n cap) R) (i : Nat) (hi : i < R.length) : w.cell? ⟨g, off + i, none⟩ = some (.int .u8 (R[i] : Nat)) := by
  rcases h.2 with ⟨e, _⟩ | ⟨g', off', cap', cur, e, hh, h1, h2, h3, h4⟩
  · simp at e
  · simp only [Value.slice.injEq, Option.some.injEq, Addr.mk.injEq] at e
    obtain ⟨⟨rfl, rfl, _⟩, _, rfl⟩ := e
    rw [cell_of_row _ _ _ _ 5 (0, 0) hh]
    have h5 := congrArg (fun l => l[i]?) h4
    simp only [u8s_get R i hi, List.getElem?_take, List.getElem?_drop] at h5
    rw [if_pos hi] at h5
    rw [← h5]
    simp
theorem RestB.tail {w : World} {g off n cap : Nat} {R : List Nat} (h : RestB w (.slice (some ⟨g, off, none⟩) n cap) R) (k : Nat) (hk : k ≤ R.length) (hc : ¬ cap = k) : RestB w (.slice (some ⟨g, off + k, none⟩) (n - k) (cap - k)) (R.drop k) := by
  refine ⟨fun n hn => h.1 n (List.mem_of_mem_drop hn), ?_⟩
  rcases h.2 with ⟨e, _⟩ | ⟨g', off', cap', cur, e, hh, h1, h2, h3, h4⟩
  · simp at e
  · simp only [Value.slice.injEq, Option.some.injEq, Addr.mk.injEq] at e
    obtain ⟨⟨rfl, rfl, _⟩, rfl, rfl⟩ := e
    refine .inr ⟨g, off + k, cap - k, cur, by rw [List.length_drop], hh, by omega, by rw [List.length_drop]; omega, by omega, ?_⟩
    rw [List.length_drop, ← List.drop_drop, ← List.drop_take, h4]
    simp [u8s]
theorem RestB.tail_end {w : World} {g off n cap : Nat} {R : List Nat} (h : RestB w (.slice (some ⟨g, off, none⟩) n cap) R) (k : Nat) (hk : k ≤ R.length) (hc : cap = k) : RestB w (.slice (some ⟨g, off, none⟩) (n - k) (cap - k)) (R.drop k) := by
  refine ⟨fun n hn => h.1 n (List.mem_of_mem_drop hn), ?_⟩
  rcases h.2 with ⟨e, _⟩ | ⟨g', off', cap', cur, e, hh, h1, h2, h3, h4⟩
  · simp at e
  · simp only [Value.slice.injEq, Option.some.injEq, Addr.mk.injEq] at e
    obtain ⟨⟨rfl, rfl, _⟩, rfl, rfl⟩ := e
    have hkl : k = R.length := by omega
    refine .inr ⟨g, off, cap - k, cur, by rw [List.length_drop], hh, by omega, by rw [List.length_drop]; omega, by omega, ?_⟩
    rw [hkl]
    simp [u8s]

/-- what Next leaves -/
def NextIs (w : World) (p : Nat) (r h : Value) (res : St × List Nat × Nat × List Nat) (e : Ending) (w' : World) : Prop :=
  ∃ o h' r', e = .returned (.tuple #[o, .int .i64 (res.2.2.1 : Nat)]) ∧ FeedS w' p r' h' res.1 ∧ RestB w' r' res.2.1 ∧ (r'.ownBlock = r.ownBlock ∨ r'.ownBlock = none) ∧ OwnB w' w.heap.size o res.2.2.2 ∧ Foot p h w w' ∧ Moved h h' w ∧ (res.2.2.1 = 1 → h' = .slice none 0 0) ∧ (res.2.2.1 ≠ 1 → o = .slice none 0 0)

theorem run_fv (p : Nat) (m : Mode) (w : World) : Sem.run Try.prog (binOp BinOp.eql 47 (fv p m) Value.nilFunc) w = .ok (.bool false) w := by
  cases m <;> kernel_rfl

/-- the relation of Next's loop -/
structure Going (w wr : World) (p : Nat) (r h hk : Value) (s sk : St) (R : List Nat) (k : Nat) : Prop where
  f : FeedS wr p r hk sk
  ok : Ok sk
  run : runS s R = runS sk (R.drop k)
  foot : Foot p h w wr
  mv : Moved h hk w

theorem Going.rest {w wr : World} {p : Nat} {r h hk : Value} {s sk : St} {R : List Nat} {k : Nat} (g : Going w wr p r h hk s sk R k) (hr : RestB w r R) (hp : r.ownBlock ≠ some p) (hd : ∀ g, r.ownBlock = some g → h.ownBlock ≠ some g) : RestB wr r R :=
  hr.keep fun b hb => g.foot.block b (hr.lt b hb) (by rintro rfl; exact hp hb) (hd b hb)
theorem Going.disj {w wr : World} {p : Nat} {r h hk : Value} {s sk : St} {R : List Nat} {k : Nat} (g : Going w wr p r h hk s sk R k) (hr : RestB w r R) (hd : ∀ g, r.ownBlock = some g → h.ownBlock ≠ some g) : ∀ b, r.ownBlock = some b → hk.ownBlock ≠ some b := by
  intro b hb e
  rcases g.mv with m | m
  · rw [m] at e; exact hd b hb e
  · have := m b e; have := hr.lt b hb; omega
theorem Going.next {w wr w2 : World} {p : Nat} {r h hk h2 : Value} {s sk : St} {R : List Nat} {k : Nat} {x : Nat} (g : Going w wr p r h hk s sk R k) (hk' : k < R.length) (hx : R[k] = x) (hxb : x < 256) (h0 : (stepS sk x).2 = 0) (hf : FeedS w2 p r h2 (stepS sk x).1) (ft : Foot p hk wr w2) (mv : Moved hk h2 wr) : Going w w2 p r h h2 s (stepS sk x).1 R (k + 1) := by
  refine ⟨hf, ok_step g.ok x hxb, ?_, g.foot.trans g.mv ft, g.mv.trans mv g.foot.size⟩
  rw [g.run, List.drop_eq_getElem_cons hk', hx]
  conv => lhs; unfold runS
  rw [if_pos h0]
end Go.Proofs.Ytgafalobbhoaoaa
