/-
  Tokens held against each other; appended.
-/
import Derived.Test.YtghibofnfjnfcaaGreatDoorLexM
import Derived.Deep.RegionHeld3
namespace Go.Proofs.YtghibofnfjnfcaaGreatDoor
set_option linter.unusedVariables false
open Go.RowKit

theorem tksV_get (l : List Tk) : ∀ (i : Nat) (h : i < l.length), (tksV l)[i * 2]? = some (.int .i64 (l[i].1 : Nat)) ∧ (tksV l)[i * 2 + 1]? = some (.string (strN l[i].2)) := by
  induction l with
  | nil => intro i h; simp at h
  | cons x l ih =>
    intro i h
    have e : tksV (x :: l) = [.int .i64 (x.1 : Nat), .string (strN x.2)] ++ tksV l := by simp [tksV, tkV]
    rw [e]
    cases i with
    | zero => exact ⟨rfl, rfl⟩
    | succ i =>
      have h' : i < l.length := by simpa using h
      obtain ⟨h1, h2⟩ := ih i h'
      constructor
      · rw [List.getElem?_append_right (by simp; omega), show (i + 1) * 2 - [Value.int .i64 (x.1 : Nat), .string (strN x.2)].length = i * 2 by simp; omega, h1]
        simp
      · rw [List.getElem?_append_right (by simp; omega), show (i + 1) * 2 + 1 - [Value.int .i64 (x.1 : Nat), .string (strN x.2)].length = i * 2 + 1 by simp; omega, h2]
        simp
theorem OwnT.cells {w : World} {B : Nat} {v : Value} {l : List Tk} (h : OwnT w B v l) : ∃ g cap, (0 < l.length → v = .slice (some ⟨g, 0, none⟩) l.length cap ∧ B ≤ g ∧ g < w.heap.size ∧ ∀ i (hi : i < l.length), w.cell? ⟨g, i * 2, none⟩ = some (.int .i64 (l[i].1 : Nat)) ∧ w.cell? ⟨g, i * 2 + 1, none⟩ = some (.string (strN l[i].2))) := by
  have h0 := h
  rcases h.2 with ⟨rfl, hl⟩ | ⟨g, cap, cur, rfl, hb, hh, _⟩
  · have : l = [] := List.eq_nil_of_length_eq_zero hl
    subst this
    exact ⟨0, 0, fun h => absurd h (by simp)⟩
  · refine ⟨g, cap, fun _ => ⟨rfl, hb, (Array.getElem?_eq_some_iff.1 hh).1, fun i hi => ?_⟩⟩
    obtain ⟨h1, h2⟩ := tksV_get l i hi
    exact ⟨by rw [World.ownsRow.cellAt h0 (i * 2) (by omega), h1], by rw [World.ownsRow.cellAt h0 (i * 2 + 1) (by omega), h2]⟩

theorem eqT_yes (a : Int) (s : ByteArray) (w : World) : Calls Tryz.prog 30 #[.agg #[.int .i64 a, .string s], .agg #[.int .i64 a, .string s]] w fun e w' => e = .returned (.bool true) ∧ Below w.heap.size w w' := by
  go_enter Tryz.func30, Tryz.ntmps30
  go_wp2_with fail
  go_ret
  exact ⟨ret_eq (by simp), ((Below.refl _ _).alloc (Nat.le_refl _) _).alloc (by simp) _⟩

set_option maxHeartbeats 2000000 in
theorem sameT_yes {va vb : Value} {l : List Tk} {w : World} {B B' : Nat} (ha : OwnT w B va l) (hb : OwnT w B' vb l) (hl : l.length ≤ 100000000) :
    Calls Tryz.prog 29 #[va, vb, .func (.func 30) #[] #[]] w fun e w' => e = .returned (.bool true) ∧ Below w.heap.size w w' := by
  obtain ⟨ba, capa, hca⟩ := ha.cells
  obtain ⟨bb, capb, hcb⟩ := hb.cells
  obtain ⟨aa, ca, ea⟩ := ha.shape
  obtain ⟨ab, cb, eb⟩ := hb.shape
  subst ea eb
  have CA := Lib.hid hca
  have CB := Lib.hid hcb
  clear ha hb hca hcb
  go_enter Tryz.func29, Tryz.ntmps29
  go_wp2_with fail
  go_loopw [7] (fun i wr => ∃ k : Nat, k ≤ l.length ∧ i = .int .i64 k ∧ Below w.heap.size w wr) (fun i _ => l.length - (intOf i).toNat)
  case atStart => exact ⟨0, Nat.zero_le _, rfl, Below.refl _ _⟩
  case round =>
    obtain ⟨k, hk, rfl, hst⟩ := hrel
    by_cases hka : k < l.length
    · obtain ⟨e1, _, hba, hca⟩ := CA.out (by omega)
      obtain ⟨e2, _, hbb, hcb⟩ := CB.out (by omega)
      simp only [Value.slice.injEq] at e1 e2
      obtain ⟨rfl, -, rfl⟩ := e1
      obtain ⟨rfl, -, rfl⟩ := e2
      have c1 : wr.cell? ⟨ba, k * 2, none⟩ = some (.int .i64 (l[k].1 : Nat)) := (hst.cell (p := ⟨ba, k * 2, none⟩) hba).trans (hca k hka).1
      have c2 : wr.cell? ⟨ba, k * 2 + 1, none⟩ = some (.string (strN l[k].2)) := (hst.cell (p := ⟨ba, k * 2 + 1, none⟩) hba).trans (hca k hka).2
      have c3 : wr.cell? ⟨bb, k * 2, none⟩ = some (.int .i64 (l[k].1 : Nat)) := (hst.cell (p := ⟨bb, k * 2, none⟩) hbb).trans (hcb k hka).1
      have c4 : wr.cell? ⟨bb, k * 2 + 1, none⟩ = some (.string (strN l[k].2)) := (hst.cell (p := ⟨bb, k * 2 + 1, none⟩) hbb).trans (hcb k hka).2
      have hbs := hst.size
      clear hca hcb
      generalize ((l[k].1 : Nat) : Int) = x1 at *
      generalize strN l[k].2 = x2 at *
      go_wp2_with fail
      go_region_held3 (fun w' => w'.cell? ⟨ba, k * 2, none⟩ = some (.int .i64 x1) ∧ w'.cell? ⟨ba, k * 2 + 1, none⟩ = some (.string x2) ∧ w'.cell? ⟨bb, k * 2, none⟩ = some (.int .i64 x1) ∧ w'.cell? ⟨bb, k * 2 + 1, none⟩ = some (.string x2))
        (first | with_reducible exact kb | with_reducible exact ⟨c1, c2, c3, c4⟩ | go_keep)
        ((go_at_call 30; refine (eqT_yes x1 x2 _).mono ?_; rintro e w2 ⟨rfl, hb2⟩; have HB : Hid (Below wr.heap.size wr w2) := Lib.hid ((Below.refl _ _).drew.trans hb2); have kb : w2.cell? ⟨ba, k * 2, none⟩ = some (.int .i64 x1) ∧ w2.cell? ⟨ba, k * 2 + 1, none⟩ = some (.string x2) ∧ w2.cell? ⟨bb, k * 2, none⟩ = some (.int .i64 x1) ∧ w2.cell? ⟨bb, k * 2 + 1, none⟩ = some (.string x2) := ⟨(HB.out.cell (p := ⟨ba, k * 2, none⟩) (by show ba < _; omega)).trans c1, (HB.out.cell (p := ⟨ba, k * 2 + 1, none⟩) (by show ba < _; omega)).trans c2, (HB.out.cell (p := ⟨bb, k * 2, none⟩) (by show bb < _; omega)).trans c3, (HB.out.cell (p := ⟨bb, k * 2 + 1, none⟩) (by show bb < _; omega)).trans c4⟩; clear hb2))
      go_wp2_with fail
      go_roundw
      case rel => exact ⟨k + 1, by omega, by go_num, hst.trans (HB.out.mono hbs)⟩
      case measure => simp [intOf]; omega
    · obtain rfl : k = l.length := by omega
      go_wp2_with fail
      go_ret
      exact ⟨rfl, hst⟩

theorem plainT_yes {va vb : Value} {l : List Tk} {w : World} {B B' : Nat} (ha : OwnT w B va l) (hb : OwnT w B' vb l) (hl : l.length ≤ 100000000) :
    Calls Tryz.prog 17 #[va, vb] w fun e w' => e = .returned (.bool true) ∧ Below w.heap.size w w' := by
  go_enter Tryz.func17, Tryz.ntmps17
  go_wp2_with fail
  refine (sameT_yes ha hb hl).mono ?_
  rintro e w1 ⟨rfl, hst⟩
  go_wp2_with fail
  go_ret
  exact ⟨rfl, hst⟩
end Go.Proofs.YtghibofnfjnfcaaGreatDoor
