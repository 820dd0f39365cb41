/-
  The walk of CodeWrites.
-/
import Derived.Test.YtfaecojhkiombaaRNum
import Derived.Test.YtfaecojhkiombaaAwake
namespace Go.Proofs.Ytfaecojhkiombaa.codeWrites
set_option linter.unusedVariables false
open Go.RowKit

theorem esc_lt {l : List Nat} (h : ∀ n ∈ l, n < 256) : ∀ n ∈ txt l, n < 256 := by
  intro n hn
  simp only [txt, esc, List.mem_append, List.mem_flatMap] at hn
  rcases hn with ⟨a, ha, hn⟩ | hn
  · have := h a ha
    split at hn
    · simp at hn; omega
    · simp at hn; omega
  · simp at hn; omega

set_option maxHeartbeats 800000 in
theorem walk (w : World) (x0 : Int) (wf0 : (Lit.int .u64 x0).wf = true) (v : Value) (l : List Nat) (hr : RowB w v l) (hs : l.length ≤ 1048576) :
    Calls Try.prog 3 #[.int .u64 x0, v] w fun e w' => e = .returned (.bool true) ∧ Below w.heap.size w w' := by
  obtain ⟨x, rfl, hx⟩ : ∃ x : Nat, x0 = (x : Int) ∧ x < 2 ^ 64 := by
    have h := bounds_u64 wf0
    exact ⟨x0.toNat, by omega, by omega⟩
  go_enter Try.func3, Try.ntmps3
  go_wp2_with fail
  refine (own_any v l w 71 hr (by omega)).mono ?_
  rintro e w1 ⟨o, rfl, hof, hb1⟩
  have hs1 := hb1.size
  go_wp2_with fail
  refine (awake_any w1).mono ?_
  rintro e w2 ⟨rfl, hb2⟩
  have hs2 := hb2.size
  go_wp2_with fail
  refine (num_any x hx w2).mono ?_
  rintro e w3 ⟨o1, rfl, ho1, hb3⟩
  have hs3 := hb3.size
  go_wp2_with fail
  refine (rnum_any x hx w3).mono ?_
  rintro e w4 ⟨o2, rfl, ho2, hb4⟩
  have hs4 := hb4.size
  have k1 : OwnB w4 w2.heap.size o1 (numB x) := ho1.keep hb4 (fun k hk => (World.ownsRow.lt ho1 k hk).2)
  go_wp2_with fail
  refine (bytes_any (k1.row (numB_lt x)) (ho2.row (numB_lt x))).mono ?_
  rintro e w5 ⟨rfl, rfl⟩
  simp only [decide_true]
  have b14 : Below w1.heap.size w1 w4 := hb2.trans ((hb3.mono hs2).trans (hb4.mono (by omega)))
  have hof4 := hof.below b14
  go_wp2_with fail
  refine (text_any o l w4 (hof4.row hr.lt) (by omega)).mono ?_
  rintro e w6 ⟨o3, rfl, ho3, hb6⟩
  have hs6 := hb6.size
  have b06 : Below w.heap.size w w6 := (hb1.trans (b14.mono hs1)).trans (hb6.mono (by omega))
  go_wp2_with fail
  refine (rtext_any v l w6 (hr.below b06) (by omega)).mono ?_
  rintro e w7 ⟨o4, rfl, ho4, hb7⟩
  have hs7 := hb7.size
  have k3 : OwnB w7 w4.heap.size o3 (txt l) := ho3.keep hb7 (fun k hk => (World.ownsRow.lt ho3 k hk).2)
  go_wp2_with fail
  refine (bytes_any (k3.row (esc_lt hr.lt)) (ho4.row (esc_lt hr.lt))).mono ?_
  rintro e w8 ⟨rfl, rfl⟩
  simp only [decide_true]
  have b07 : Below w.heap.size w w7 := b06.trans (hb7.mono (by omega))
  have hof7 := hof4.below (hb6.trans (hb7.mono hs6))
  go_wp2_with fail
  refine (kept_any hof7 (hr.below b07) (by omega)).mono ?_
  rintro e w9 ⟨rfl, hst⟩
  go_wp2_with fail
  go_ret
  exact ⟨rfl, b07.trans (hst.1.mono (by omega))⟩
end Go.Proofs.Ytfaecojhkiombaa.codeWrites
