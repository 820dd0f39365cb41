/-
  WalRound: what is known of the log between two rounds.
-/
import Derived.Test.YtmkedanlpapndaaAwk
namespace Go.Proofs.Ytmkedanlpapndaa
set_option linter.unusedVariables false
open Go.RowKit

structure RInv (kp n : Nat) (s : LgS) (S : List (List Nat)) (W : List (Nat × List Nat)) : Prop where
  fit : Fit s S W
  ring : s.ring = 198
  len : s.ents.length = min n kp
  first : s.first + s.ents.length = n
  number : s.number ≤ 1 + 10 * n
  version : s.version ≤ n
  used : s.used = sumC s.ents
  ents : ∀ x ∈ s.ents, x.cells ≤ 10 ∧ x.place ≤ 65536 ∧ x.behind ≤ 1000000000000 ∧ x.data.length ≤ 65536 ∧ ∀ m ∈ x.data, m < 256
  waits : W.length ≤ 10 * n
theorem sumC_le (l : List Ent) (h : ∀ x ∈ l, x.cells ≤ 10) : sumC l ≤ 10 * l.length := by
  induction l with
  | nil => simp [sumC]
  | cons x r ih =>
    have h1 := ih (fun y hy => h y (by simp [hy]))
    have h2 := h x (by simp)
    unfold sumC at h1 ⊢
    simp only [List.map_cons, List.sum_cons, List.length_cons]
    omega
theorem sumC_append (a b : List Ent) : sumC (a ++ b) = sumC a + sumC b := by simp [sumC, List.map_append, List.sum_append]
theorem sumC_drop (l : List Ent) (k : Nat) : sumC (l.drop k) = sumC l - sumC (l.take k) := by
  have h : sumC l = sumC (l.take k) + sumC (l.drop k) := by rw [← sumC_append, List.take_append_drop]
  omega
theorem cellsN_10 (n : Nat) (h : n ≤ 400) : cellsN n ≤ 10 := by unfold cellsN; omega

theorem RInv.room {kp n : Nat} {s : LgS} {S : List (List Nat)} {W : List (Nat × List Nat)} (h : RInv kp n s S W) (hk : kp ≤ 5) {data : List Nat} (hd : data.length ≤ 400) : s.used + cellsN data.length ≤ s.ring := by
  have h1 := cellsN_10 _ hd
  have h2 := sumC_le s.ents (fun x hx => (h.ents x hx).1)
  have h3 := h.len
  rw [h.used, h.ring]
  omega
/-- behind an append -/
structure RMid (kp n : Nat) (s : LgS) (S : List (List Nat)) (W : List (Nat × List Nat)) (data : List Nat) : Prop where
  fit : Fit s S W
  ring : s.ring = 198
  len : s.ents.length = min n kp + 1
  first : s.first + s.ents.length = n + 1
  number : s.number ≤ 1 + 10 * (n + 1)
  version : s.version ≤ n
  used : s.used = sumC s.ents
  ents : ∀ x ∈ s.ents, x.cells ≤ 10 ∧ x.place ≤ 65536 ∧ x.behind ≤ 1000000000000 ∧ x.data.length ≤ 65536 ∧ ∀ m ∈ x.data, m < 256
  waits : W.length ≤ 10 * (n + 1)
  last : ∃ pre x, s.ents = pre ++ [x] ∧ x.data = data
theorem RInv.app {kp n : Nat} {s : LgS} {S : List (List Nat)} {W : List (Nat × List Nat)} (h : RInv kp n s S W) (hk : kp ≤ 5) (hn : n < 120) {data : List Nat} (hd : data.length ≤ 400) (h256 : ∀ m ∈ data, m < 256) :
    RMid kp n (appS s data) S (appW s data S W (cellsN data.length)) data := by
  have h1 := cellsN_10 _ hd
  have hl := h.len
  have hnb := h.number
  have hw := h.waits
  refine ⟨h.fit.app (by omega) (h.room hk hd) (by omega) (by omega) (by omega), h.ring, ?_, ?_, ?_, h.version, ?_, ?_, ?_, ⟨s.ents, _, rfl, rfl⟩⟩
  · show (s.ents ++ [_]).length = _
    simp [hl]
  · show s.first + (s.ents ++ [_]).length = _
    have := h.first
    simp
    omega
  · show s.number + cellsN data.length ≤ _
    omega
  · show s.used + cellsN data.length = sumC (s.ents ++ [_])
    rw [sumC_append, h.used]
    simp [sumC]
  · intro x hx
    rcases List.mem_append.1 hx with hx | hx
    · exact h.ents x hx
    · obtain rfl := List.mem_singleton.1 hx
      refine ⟨h1, ?_, h.fit.last, Nat.le_trans hd (by decide), h256⟩
      have h3 := h.fit.place
      have h4 := h.ring
      show s.place ≤ _
      omega
  · rw [appW_length]; omega
theorem RMid.few {kp n : Nat} {s : LgS} {S : List (List Nat)} {W : List (Nat × List Nat)} {data : List Nat} (h : RMid kp n s S W data) (hn : n + 1 ≤ kp) : RInv kp (n + 1) s S W :=
  ⟨h.fit, h.ring, by rw [h.len]; omega, h.first, h.number, by have := h.version; omega, h.used, h.ents, h.waits⟩
theorem RMid.cut {kp n : Nat} {s : LgS} {S : List (List Nat)} {W : List (Nat × List Nat)} {data : List Nat} (h : RMid kp n s S W data) (hk : 1 ≤ kp) (hn : kp < n + 1) (hn2 : n < 120) {x : Ent} (hx : s.ents[n + 1 - kp - s.first]? = some x) :
    RInv kp (n + 1) (cutS s (n + 1 - kp) x) (cutD s (n + 1 - kp) x (flushed S W)) [] ∧ ∃ pre y, (cutS s (n + 1 - kp) x).ents = pre ++ [y] ∧ y.data = data := by
  have hl := h.len
  have hf := h.first
  have e1 : n + 1 - kp - s.first = 1 := by omega
  have hel : (cutS s (n + 1 - kp) x).ents = s.ents.drop 1 := by show s.ents.drop (n + 1 - kp - s.first) = _; rw [e1]
  have hus : (cutS s (n + 1 - kp) x).used = s.used - sumC (s.ents.take 1) := by show s.used - sumC (s.ents.take (n + 1 - kp - s.first)) = _; rw [e1]
  have hv := h.version
  constructor
  · refine ⟨⟨?_, h.fit.ring, h.fit.place, h.fit.number, h.fit.last, ?_, ?_, ?_, by simp, ?_, h.fit.bound⟩, h.ring, ?_, ?_, h.number, ?_, ?_, ?_, by simp⟩
    · show (cutD _ _ _ _).length = _
      unfold cutD
      rw [flushed_len, flushed_len]
      exact h.fit.disk
    · show n + 1 - kp ≤ _; omega
    · show s.version + 1 ≤ _; omega
    · rw [hel]; simp; omega
    · rw [hus]; have := h.fit.used; show _ ≤ s.ring; omega
    · rw [hel]; simp; omega
    · rw [hel]
      show n + 1 - kp + _ = _
      simp
      omega
    · show s.version + 1 ≤ _; omega
    · rw [hel, hus, sumC_drop, h.used]
    · rw [hel]
      exact fun y hy => h.ents y (List.mem_of_mem_drop hy)
  · obtain ⟨pre, y, e, hy⟩ := h.last
    refine ⟨pre.drop 1, y, ?_, hy⟩
    rw [hel, e, List.drop_append_of_le_length]
    rw [e] at hl
    simp at hl
    omega
end Go.Proofs.Ytmkedanlpapndaa
