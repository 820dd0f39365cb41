/-
  FeedLines: one ask, and the end of what is told.
-/
import Derived.Test.YtgafalobbhoaoaaLinesW
namespace Go.Proofs.Ytgafalobbhoaoaa
set_option linter.unusedVariables false
open Go.RowKit

theorem RestB.shape {w : World} {r : Value} {R : List Nat} (h : RestB w r R) (hne : R ≠ []) : ∃ g off cap, r = .slice (some ⟨g, off, none⟩) R.length cap := by
  rcases h.2 with ⟨_, e⟩ | ⟨g, off, cap, cur, e, _⟩
  · exact absurd e hne
  · exact ⟨g, off, cap, e⟩
theorem RestB.shape' {w : World} {r : Value} {R : List Nat} (h : RestB w r R) : ∃ a cap, r = .slice a R.length cap := by
  rcases h.2 with ⟨e, e2⟩ | ⟨g, off, cap, cur, e, _⟩
  · exact ⟨_, 0, by rw [e, e2]; rfl⟩
  · exact ⟨_, cap, e⟩
theorem strs_shape {w : World} {B : Nat} {v : Value} {n : Nat} {xs : List Value} (h : w.ownsRow B 9 1 v n xs) : ∃ a c, v = .slice a n c := by
  rcases h.2 with ⟨rfl, rfl, _⟩ | ⟨g', cap, cur', rfl, _⟩
  · exact ⟨_, _, rfl⟩
  · exact ⟨_, _, rfl⟩
theorem strs_cell {w : World} {B : Nat} {us : List ByteArray} {n c : Nat} {a : Option Addr} (h : w.ownsRow B 9 1 (.slice a n c) us.length (us.map Value.string)) (k : Nat) (hk : k < us.length) : ∃ g, a = some ⟨g, 0, none⟩ ∧ w.cell? ⟨g, k, none⟩ = some (.string us[k]) := by
  have h0 := h
  rcases h.2 with ⟨e, e2⟩ | ⟨g', cap, cur', e, _⟩
  · omega
  · simp only [Value.slice.injEq] at e
    obtain ⟨rfl, rfl, rfl⟩ := e
    refine ⟨g', rfl, ?_⟩
    rw [World.ownsRow.cellAt h0 k (by simpa using hk)]
    simp [hk]

/-- a feed is asked -/
theorem Telling.ask {w wr : World} {p : Nat} {R : List Nat} {s : St} {us : List ByteArray} {v r h : Value} (k : Telling w wr p R s us v r h) (hR : R.length ≤ 2000000) (hne : R ≠ [] ∨ FeedS wr p r h s) {s' : St} {R' out : List Nat} {kind : Nat} (hrun : runS s R = (s', R', kind, out)) :
    Calls Try.prog 14 #[.pointer (some ⟨p, 0, none⟩)] wr fun e w' => ∃ o r' h', e = .returned (.tuple #[o, .int .i64 (kind : Int)]) ∧ Telling w w' p R' s' us v r' h' ∧ FeedS w' p r' h' s' ∧ OwnB w' wr.heap.size o out ∧ Foot p h wr w' ∧ (kind = 1 → h' = .slice none 0 0) := by
  have hc : Calls Try.prog 14 #[.pointer (some ⟨p, 0, none⟩)] wr (NextIs wr p r h (runS s R)) := by
    rcases k.rest.2 with ⟨e, e2⟩ | ⟨g, off, cap, cur, e, _⟩
    · subst e e2
      rcases hne with hne | hf
      · exact absurd rfl hne
      · exact next_none p h s k.ok wr hf
    · have hr := k.rest
      have hd := k.d g (by rw [e]; rfl)
      have hk := k.f
      rw [e] at hr hk
      rw [e]
      exact next_all p g off cap _ h s R rfl k.ok wr hk hr hd hR
  rw [hrun] at hc
  refine hc.mono ?_
  rintro e w2 ⟨o, h', r', rfl, hf, hr, hrb, ho, ft, mv, hn, _⟩
  have hok : Ok s' := by
    have := ok_run k.ok R k.rest.1
    rw [hrun] at this
    exact this
  exact ⟨o, r', h', rfl, k.next hf hok hr hrb ft mv, hf, ho, ft, hn⟩

theorem headL_ne (n : Nat) : ∀ x ∈ headL n, x ≠ 10 := by
  intro x hx
  have := decL_dig n
  unfold headL at hx
  simp at hx
  rcases hx with rfl | rfl | rfl | h | rfl
  · decide
  · decide
  · decide
  · have := this x h; omega
  · decide
theorem headL_len (n : Nat) (h : n ≤ 16384) : (headL n).length ≤ 9 := by
  have := decL_len n 4 (by omega)
  unfold headL
  simp
  omega
theorem nextS0 (s : St) (h : s.left = 0) : nextS s = { s with m := .line, seg := s.H.length, ahead := 0 } := if_pos h
theorem nextS1 (s : St) (h : s.left ≠ 0) : nextS s = { s with m := .lit } := if_neg h
theorem ann_y : annP [32, 121] = none := by decide

/-- the command with the literal -/
theorem run_end (l : List Nat) (hl : l.length ≤ 16384) : ∃ s1 : St, runS st0 (headL l.length ++ 13 :: 10 :: (l ++ [32, 121, 13, 10])) = (s1, l ++ [32, 121, 13, 10], 2, []) ∧ runS s1 (l ++ [32, 121, 13, 10]) = (st0, [], 1, headL l.length ++ [13, 10] ++ l ++ [32, 121]) := by
  have hh := headL_len l.length hl
  refine ⟨nextS { st0 with H := st0.H ++ headL l.length ++ [13, 10], len := st0.len + (headL l.length).length + 2, ahead := 10, lits := st0.lits + 1, left := l.length }, ?_, ?_⟩
  · rw [run_line (headL l.length) _ st0 rfl rfl (headL_ne _) (by show 0 + _ + 2 ≤ 4096; omega), ann_head _ hl]
    simp only
    rw [if_neg (by rintro (h | h); · omega
                   · simp [st0] at h)]
  · by_cases h0 : l.length = 0
    · obtain rfl := List.eq_nil_of_length_eq_zero h0
      rw [nextS0 _ rfl]
      rw [show ([] : List Nat) ++ [32, 121, 13, 10] = [32, 121] ++ 13 :: 10 :: [] from rfl]
      rw [run_line [32, 121] [] _ rfl rfl (by decide) (by show 0 + _ + 2 + 2 + 2 ≤ 4096; omega), ann_y]
      simp [st0]
    · rw [nextS1 _ h0]
      rw [run_lit l _ _ rfl (by omega) rfl]
      rw [show [32, 121, 13, 10] = [32, 121] ++ 13 :: 10 :: ([] : List Nat) from rfl]
      rw [run_line [32, 121] [] _ rfl rfl (by decide) (by show 0 + _ + 2 + 2 + 2 ≤ 4096; omega), ann_y]
      simp [st0]

theorem strN_append (a b : List Nat) : strN (a ++ b) = strN a ++ strN b := by
  apply ByteArray.ext
  simp [strN]
theorem strN_natsS (s : ByteArray) : strN (natsS s) = s := by
  apply ByteArray.ext
  unfold strN natsS
  simp [Function.comp_def]
end Go.Proofs.Ytgafalobbhoaoaa
