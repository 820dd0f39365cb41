/-
  The contract of Crash.
-/
import Derived.Test.YtmnbkhgogogeiaaLaid
import Derived.Lib.MinMax
import Derived.Deep.RegionHeld3
namespace Go.Proofs.Ytmnbkhgogogeiaa
set_option linter.unusedVariables false
open Go.RowKit

/-- a row of numbers -/
def IntB (w : World) (v : Value) (K : List Int) : Prop := ((∃ a cap, v = .slice a 0 cap) ∧ K = []) ∨ ∃ b off cap, v = .slice (some ⟨b, off, none⟩) K.length cap ∧ K.length ≤ cap ∧ cap ≤ maxLen ∧ ∀ i (hi : i < K.length), w.cell? ⟨b, off + i, none⟩ = some (.int .i64 K[i])
theorem IntB.shape {w : World} {v : Value} {K : List Int} (h : IntB w v K) : ∃ a cap, v = .slice a K.length cap ∧ K.length ≤ 9223372036854775807 := by
  rcases h with ⟨⟨a, cap, rfl⟩, rfl⟩ | ⟨b, off, cap, rfl, h1, h2, _⟩
  · exact ⟨a, cap, rfl, by simp⟩
  · exact ⟨_, _, rfl, by simp only [maxLen] at h2; omega⟩

/-- the sectors while they are laid -/
structure Lay (S S' : List (List Nat)) : Prop where
  len : S'.length = S.length
  s64 : ∀ s ∈ S', s.length = 64
  s256 : ∀ s ∈ S', ∀ n ∈ s, n < 256
theorem Good.lay {S : List (List Nat)} {W : List (Nat × List Nat)} (h : Good S W) : Lay S S := ⟨rfl, h.s64, h.s256⟩
theorem Lay.put {S S' : List (List Nat)} (h : Lay S S') {x n : Nat} {d : List Nat} (hx : x < S.length) (hn : n ≤ 64) (hd : d.length = 64) (h256 : ∀ n ∈ d, n < 256) : Lay S (putN S' x n d) :=
  ⟨(putN_len _ _ _ _).trans h.len, putN_64 h.s64 hd (by rw [h.len]; exact hx) hn, putN_256 h.s256 h256 (by rw [h.len]; exact hx)⟩

theorem laid_fin {w wr w2 : World} {O : Nat → Prop} {p : Nat} {kv wv mv v : Value} {S S' : List (List Nat)} {W : List (Nat × List Nat)} {arm a' : Nat} {down d' : Bool} (h : Dk w O p kv wv mv S W arm down) (hl : Lay S S') (hrow : wr.ownsRow 0 143 64 kv S.length (secs S')) (hb : Beside (fun k => kv.ownBlock = some k) w wr)
    (hv2 : DkV w2 p kv (.slice none 0 0) (.map none) a' d') (hb2 : Beside (· = p) wr w2) : DkEnd w O p kv S' [] a' d' v (.returned v) w2 := by
  have hpr : DkV wr p kv wv mv arm down := h.row.beside hb (fun hk => ownsRow_ne h.kept h.row (by decide) p hk rfl)
  refine ⟨_, _, O, rfl, ⟨hv2, ?_, World.ownsRow_nil _ _ _ _, .inl ⟨rfl, rfl⟩, ⟨hl.s64, hl.s256, by simp, by simp, by simp, by rw [hl.len]; exact h.good.sl, by simp⟩, h.op, h.ok, by simp [Value.ownBlock], by simp⟩, ?_, fun k hk => .inl hk⟩
  · rw [hl.len]
    exact ownsRow_beside hrow hb2 (fun k hk => ownsRow_ne hrow hpr (by decide) k hk)
  · exact (hb.mono fun k _ hk => h.ok k hk).trans (hb2.mono fun k _ hk => hk ▸ h.op)

/-- a write that waits is loaded -/
theorem load_write {w : World} {ops : Array Oper} {rest : List Oper} {op : Oper} {a : Act} {Q : Exit → Act → World → Prop} (hgd : op.guard = none) (x : Operand) (ho : op.op = .load 145 x)
    (b o : Nat) (hx : a.eval x = .pointer (some ⟨b, o, none⟩)) (X : List Value) (hl : X.length = 65) (hc : w.rangeAt b o X)
    (h : wpList Try.prog ops Q rest (a.put op.dst (.agg X.toArray)) w) : wpList Try.prog ops Q (op :: rest) a w :=
  wpList_load_mid hgd 145 x ho b o hx X _ hc Try.underlying145 rfl (by rw [load69]; simp [hl]) h

theorem wait_at {w : World} {wv : Value} {W : List (Nat × List Nat)} (hrow : w.ownsRow 0 145 65 wv W.length (wcells W)) (h64 : ∀ x ∈ W, x.2.length = 64) {i : Nat} (hi : i < W.length) :
    ∃ wg wc, wv = .slice (some ⟨wg, 0, none⟩) W.length wc ∧ W.length ≤ wc ∧ wg < w.heap.size ∧ w.rangeAt wg (i * 65) (wcell W[i]) ∧ wc ≤ maxLen := by
  rcases hrow.2 with ⟨_, h0⟩ | ⟨kg, kc, cur, rfl, _, hh, hc, hm, hsz, ht⟩
  · omega
  · refine ⟨kg, kc, rfl, hc, lt_of_block hh, fun j v hj => ?_, hm⟩
    have hj64 : j < 65 := by have := (List.getElem?_eq_some_iff.1 hj).1; simpa [wcell, h64 _ (List.getElem_mem hi)] using this
    have h1 := wcells_at h64 hi hj64
    rw [cell_of_row _ _ _ _ _ _ hh]
    have h2 : (wcells W)[i * 65 + j]? = cur[i * 65 + j]? := by
      rw [← ht, List.getElem?_take_of_lt (by omega)]
      simp
    rw [← h2, h1, hj]

theorem setRow_cell {w : World} {g : Nat} {p : Addr} (h : p.block ≠ g) (cs : Array Value) : (w.setRow g cs).cell? p = w.cell? p := World.cell?_of_block (setRow_other w g p.block cs h)

end Go.Proofs.Ytmnbkhgogogeiaa
