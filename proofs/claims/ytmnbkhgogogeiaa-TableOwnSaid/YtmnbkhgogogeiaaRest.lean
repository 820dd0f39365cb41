/-
  The rest of the disk's methods: Size, Arm, Write's refusals, Fork.
-/
import Derived.Test.YtmnbkhgogogeiaaAwake
import Derived.Shelf.SlMaps.Clone
namespace Go.Proofs.Ytmnbkhgogogeiaa
set_option linter.unusedVariables false
open Go.RowKit

theorem size_ok {w : World} {O : Nat → Prop} {p : Nat} {kv wv mv : Value} {S : List (List Nat)} {W : List (Nat × List Nat)} {arm : Nat} {down : Bool} (h : Dk w O p kv wv mv S W arm down) :
    Calls Try.prog 26 #[.pointer (some ⟨p, 0, none⟩)] w fun e w' => e = .returned (.int .i64 (S.length : Nat)) ∧ w = w' := by
  have c0 := h.row.cell0
  obtain ⟨a, cap, e⟩ : ∃ a cap, kv = .slice a S.length cap := by
    rcases h.kept.2 with ⟨e, h0⟩ | ⟨g, cap, cur, e, _⟩
    · exact ⟨none, 0, by rw [e, h0]⟩
    · exact ⟨_, _, e⟩
  subst e
  clear h
  go_enter Try.func26, Try.ntmps26
  go_wp2_with fail
  go_ret
  exact ⟨rfl, rfl⟩

theorem write_arg {w : World} {p : Nat} {ko : Option Addr} {n kc : Nat} {wv mv : Value} {arm : Int} (h : DkV w p (.slice ko n kc) wv mv arm false) (hn : n ≤ 65536) (a : Int) (va : Option Addr) (vn vc : Nat) (hbad : hasB n a = false ∨ vn ≠ 64) : Calls Try.prog 95 #[.pointer (some ⟨p, 0, none⟩), .int .i64 a, .slice va vn vc] w fun e w' => e = .returned (.int .i64 1) ∧ w = w' := by
  have hh := has_ok h a hn
  cases hb : hasB n a with
  | false =>
    rw [hb] at hh
    have HH := Lib.hid hh
    clear hh hb hbad
    go_enter Try.func95, Try.ntmps95
    go_wp2_with fail
    refine (ready_ok h).mono ?_
    rintro e w1 ⟨rfl, rfl⟩
    go_wp2_with fail
    refine HH.out.mono ?_
    rintro e w1 ⟨rfl, rfl⟩
    go_wp2_with fail
    go_ret
    exact ⟨rfl, rfl⟩
  | true =>
    rw [hb] at hh
    have hne : ¬ (vn : Int) = 64 := by
      rcases hbad with hbad | hbad
      · rw [hb] at hbad; cases hbad
      · omega
    have HH := Lib.hid hh
    clear hh hb hbad
    go_enter Try.func95, Try.ntmps95
    go_wp2_with fail
    refine (ready_ok h).mono ?_
    rintro e w1 ⟨rfl, rfl⟩
    go_wp2_with fail
    refine HH.out.mono ?_
    rintro e w1 ⟨rfl, rfl⟩
    go_wp2_with fail
    go_ret
    exact ⟨rfl, rfl⟩
theorem DkV.set0 {w : World} {p : Nat} {kv wv mv : Value} {arm : Int} {down : Bool} (h : DkV w p kv wv mv arm down) (v : Value) : DkV (w.setCell ⟨p, 0, none⟩ v) p v wv mv arm down := by unfold DkV at h ⊢; rw [heap_setCell_same w p 0 _ 62 _ h]; rfl
theorem DkV.below {w w' : World} {p : Nat} {kv wv mv : Value} {arm : Int} {down : Bool} (h : DkV w p kv wv mv arm down) (hb : Below w.heap.size w w') : DkV w' p kv wv mv arm down := by
  have := lt_of_block h
  unfold DkV at h ⊢
  rw [hb.block p this, h]
theorem ownsRow_below {w w' : World} {B : Nat} {e : TypeId} {sz : Nat} {v : Value} {n : Nat} {xs : List Value} (h : w.ownsRow B e sz v n xs) (hb : Below w.heap.size w w') : w'.ownsRow B e sz v n xs :=
  ownsRow_beside (own := fun _ => False) h ⟨hb.os, hb.tape, hb.output, hb.size, fun k hk _ => hb.block k hk⟩ (fun _ _ h => h)
theorem ownsRow_set {w : World} {B : Nat} {e : TypeId} {sz : Nat} {v : Value} {n : Nat} {xs : List Value} (h : w.ownsRow B e sz v n xs) {q j : Nat} {u : Value} (hn : ∀ k, v.ownBlock = some k → k ≠ q) : (w.setCell ⟨q, j, none⟩ u).ownsRow B e sz v n xs :=
  ownsRow_beside (own := (· = q)) h (Beside.one w q j u) hn
theorem own_shape {w : World} {B : Nat} {e : TypeId} {sz : Nat} {v : Value} {n : Nat} {xs : List Value} (h : w.ownsRow B e sz v n xs) : ∃ a c, v = .slice a n c := by
  rcases h.2 with ⟨rfl, rfl⟩ | ⟨g, cap, cur, rfl, _⟩
  · exact ⟨_, _, rfl⟩
  · exact ⟨_, _, rfl⟩
theorem own_ge {w : World} {B : Nat} {e : TypeId} {sz : Nat} {v : Value} {n : Nat} {xs : List Value} (h : w.ownsRow B e sz v n xs) : ∀ k, v.ownBlock = some k → B ≤ k := by
  intro k hk
  rcases h.2 with ⟨rfl, _⟩ | ⟨g', cap', cur, rfl, hb, hh, _⟩
  · cases hk
  · simp [Value.ownBlock] at hk
    subst hk
    exact hb
theorem secs_one (S : List (List Nat)) : ∀ v ∈ secs S, v.oneCell' = true := by
  intro v hv
  obtain ⟨s, _, hs⟩ := List.mem_flatMap.1 hv
  exact u8s_one s v hs
theorem wcells_one (W : List (Nat × List Nat)) : ∀ v ∈ wcells W, v.oneCell' = true := by
  intro v hv
  obtain ⟨x, _, hs⟩ := List.mem_flatMap.1 hv
  exact wrow_one x.1 x.2 v hs
end Go.Proofs.Ytmnbkhgogogeiaa
