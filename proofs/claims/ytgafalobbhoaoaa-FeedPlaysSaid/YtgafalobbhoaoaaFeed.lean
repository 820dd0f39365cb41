/-
  A feed in its block; the contracts of its methods at the texts that awake takes.
-/
import Derived.Test.YtgafalobbhoaoaaMem
import Derived.BigQuiet
import Derived.Deep.QuietTactic
import Derived.Deep.RegionHeld3
import Derived.Laws.EntriesVeiled
import Derived.WalkSpells
import Derived.IntWalk
namespace Go.Proofs.Ytgafalobbhoaoaa
set_option linter.unusedVariables false
open Go.RowKit

/-- the method value that reads a byte of a line -/
def lineV (p : Nat) : Value := .func (.func 20) #[.pointer (some ⟨p, 0, none⟩)] #[]

/-- a feed's block, whole -/
structure FeedB (w : World) (p : Nat) (f r h : Value) (seg len lits left ahead : Int) : Prop where
  row : w.heap[p]? = some (.cells #[f, r, h, .int .i64 seg, .int .i64 len, .int .i64 lits, .int .i64 left, .int .u8 ahead] 49 (0, 0))
/-- its cells -/
structure FeedAt (w : World) (p : Nat) (f r h : Value) (seg len lits left ahead : Int) : Prop where
  c0 : w.cell? ⟨p, 0, none⟩ = some f
  c1 : w.cell? ⟨p, 1, none⟩ = some r
  c2 : w.cell? ⟨p, 2, none⟩ = some h
  c3 : w.cell? ⟨p, 3, none⟩ = some (.int .i64 seg)
  c4 : w.cell? ⟨p, 4, none⟩ = some (.int .i64 len)
  c5 : w.cell? ⟨p, 5, none⟩ = some (.int .i64 lits)
  c6 : w.cell? ⟨p, 6, none⟩ = some (.int .i64 left)
  c7 : w.cell? ⟨p, 7, none⟩ = some (.int .u8 ahead)
  x0 : w.frozen? ⟨p, 0, none⟩ = false
  x1 : w.frozen? ⟨p, 1, none⟩ = false
  x2 : w.frozen? ⟨p, 2, none⟩ = false
  x3 : w.frozen? ⟨p, 3, none⟩ = false
  x4 : w.frozen? ⟨p, 4, none⟩ = false
  x5 : w.frozen? ⟨p, 5, none⟩ = false
  x6 : w.frozen? ⟨p, 6, none⟩ = false
  x7 : w.frozen? ⟨p, 7, none⟩ = false
theorem FeedB.at {w : World} {p : Nat} {f r h : Value} {seg len lits left ahead : Int} (k : FeedB w p f r h seg len lits left ahead) : FeedAt w p f r h seg len lits left ahead := by
  have c : ∀ j, w.cell? ⟨p, j, none⟩ = (#[f, r, h, .int .i64 seg, .int .i64 len, .int .i64 lits, .int .i64 left, .int .u8 ahead] : Array Value)[j]? := fun j => cell_of_row _ _ j _ 49 (0, 0) k.row
  have x : ∀ j, w.frozen? ⟨p, j, none⟩ = false := fun j => frozen_of_row _ _ _ _ _ k.row
  exact ⟨c 0, c 1, c 2, c 3, c 4, c 5, c 6, c 7, x 0, x 1, x 2, x 3, x 4, x 5, x 6, x 7⟩
theorem FeedB.keep {w w' : World} {p S : Nat} {f r h : Value} {seg len lits left ahead : Int} (k : FeedB w p f r h seg len lits left ahead) (hb : Below S w w') (hS : p < S) : FeedB w' p f r h seg len lits left ahead := ⟨by rw [hb.block _ hS]; exact k.row⟩
theorem FeedB.lt {w : World} {p : Nat} {f r h : Value} {seg len lits left ahead : Int} (k : FeedB w p f r h seg len lits left ahead) : p < w.heap.size := (Array.getElem?_eq_some_iff.1 k.row).1

set_option maxHeartbeats 400000 in
theorem new_any (w : World) : Calls Try.prog 6 #[] w fun e w' => e = .returned (.pointer (some ⟨w.heap.size, 0, none⟩)) ∧ FeedB w' w.heap.size .nilFunc (.slice none 0 0) (.slice none 0 0) 0 0 0 0 0 ∧ w'.heap.size = w.heap.size + 1 ∧ Below w.heap.size w w' := by
  go_enter Try.func6, Try.ntmps6
  go_wp2_with fail
  go_ret
  exact ⟨rfl, ⟨heap_alloc_new w _⟩, by simp, (Below.refl _ _).alloc (Nat.le_refl _) _⟩

theorem put_nil (v : Value) (w : World) : Calls Try.prog 9 #[.pointer none, v] w fun e w' => e = .returned (.tuple #[]) ∧ w = w' := by
  go_enter Try.func9, Try.ntmps9
  go_wp2_with fail
  exact bodyPost_ret (v := .tuple #[]) (by simp [results, Try.results9, go_sem]) rfl ⟨rfl, rfl⟩
theorem next_nil (w : World) : Calls Try.prog 14 #[.pointer none] w fun e w' => e = .returned (.tuple #[.slice none 0 0, .int .i64 0]) ∧ w = w' := by
  go_enter Try.func14, Try.ntmps14
  go_wp2_with fail
  exact bodyPost_ret (v := .tuple #[.slice none 0 0, .int .i64 0]) (by simp [results, Try.results14, go_sem]) rfl ⟨rfl, rfl⟩
theorem held_nil (w : World) : Calls Try.prog 11 #[.pointer none] w fun e w' => e = .returned (.int .i64 0) ∧ w = w' := by
  go_enter Try.func11, Try.ntmps11
  go_wp2_with fail
  go_ret
  exact ⟨rfl, rfl⟩

theorem FeedB.set0 {w : World} {p : Nat} {f r h : Value} {seg len lits left ahead : Int} (k : FeedB w p f r h seg len lits left ahead) (v : Value) : FeedB (w.setCell ⟨p, 0, none⟩ v) p v r h seg len lits left ahead := ⟨heap_setCell_same w p 0 _ _ _ k.row⟩
theorem FeedB.set1 {w : World} {p : Nat} {f r h : Value} {seg len lits left ahead : Int} (k : FeedB w p f r h seg len lits left ahead) (v : Value) : FeedB (w.setCell ⟨p, 1, none⟩ v) p f v h seg len lits left ahead := ⟨heap_setCell_same w p 1 _ _ _ k.row⟩
theorem FeedB.set2 {w : World} {p : Nat} {f r h : Value} {seg len lits left ahead : Int} (k : FeedB w p f r h seg len lits left ahead) (v : Value) : FeedB (w.setCell ⟨p, 2, none⟩ v) p f r v seg len lits left ahead := ⟨heap_setCell_same w p 2 _ _ _ k.row⟩
theorem FeedB.set3 {w : World} {p : Nat} {f r h : Value} {seg len lits left ahead : Int} (k : FeedB w p f r h seg len lits left ahead) (v : Int) : FeedB (w.setCell ⟨p, 3, none⟩ (.int .i64 v)) p f r h v len lits left ahead := ⟨heap_setCell_same w p 3 _ _ _ k.row⟩
theorem FeedB.set4 {w : World} {p : Nat} {f r h : Value} {seg len lits left ahead : Int} (k : FeedB w p f r h seg len lits left ahead) (v : Int) : FeedB (w.setCell ⟨p, 4, none⟩ (.int .i64 v)) p f r h seg v lits left ahead := ⟨heap_setCell_same w p 4 _ _ _ k.row⟩
theorem FeedB.set5 {w : World} {p : Nat} {f r h : Value} {seg len lits left ahead : Int} (k : FeedB w p f r h seg len lits left ahead) (v : Int) : FeedB (w.setCell ⟨p, 5, none⟩ (.int .i64 v)) p f r h seg len v left ahead := ⟨heap_setCell_same w p 5 _ _ _ k.row⟩
theorem FeedB.set6 {w : World} {p : Nat} {f r h : Value} {seg len lits left ahead : Int} (k : FeedB w p f r h seg len lits left ahead) (v : Int) : FeedB (w.setCell ⟨p, 6, none⟩ (.int .i64 v)) p f r h seg len lits v ahead := ⟨heap_setCell_same w p 6 _ _ _ k.row⟩
theorem FeedB.set7 {w : World} {p : Nat} {f r h : Value} {seg len lits left ahead : Int} (k : FeedB w p f r h seg len lits left ahead) (v : Int) : FeedB (w.setCell ⟨p, 7, none⟩ (.int .u8 v)) p f r h seg len lits left v := ⟨heap_setCell_same w p 7 _ _ _ k.row⟩
theorem OwnB.other {w : World} {B p j : Nat} {v u : Value} {l : List Nat} (h : OwnB w B v l) (hp : p < B) : OwnB (w.setCell ⟨p, j, none⟩ u) B v l := by
  refine ⟨h.1, ?_⟩
  rcases h.2 with h2 | ⟨g, cap, cur, rfl, hg, hh, r⟩
  · exact .inl h2
  · exact .inr ⟨g, cap, cur, rfl, hg, by rw [heap_setCell_other _ _ _ _ (show g ≠ p by omega)]; exact hh, r⟩

/-- below B nothing has turned but block p -/
def Kept (p B : Nat) (w w' : World) : Prop := ∀ b, b < B → b ≠ p → w'.heap[b]? = w.heap[b]?
theorem Kept.refl (p B : Nat) (w : World) : Kept p B w w := fun _ _ _ => rfl
theorem Kept.trans {p B : Nat} {a b c : World} (h : Kept p B a b) (k : Kept p B b c) : Kept p B a c := fun x h1 h2 => (k x h1 h2).trans (h x h1 h2)
theorem Kept.of {p B S : Nat} {w w' : World} (h : Below S w w') (hS : B ≤ S) : Kept p B w w' := fun x h1 _ => h.block x (by omega)
theorem Kept.set {p B j : Nat} {w w' : World} {v : Value} (h : Kept p B w w') : Kept p B w (w'.setCell ⟨p, j, none⟩ v) := fun x h1 h2 => (heap_setCell_other _ _ _ _ (by simpa using h2)).trans (h x h1 h2)
theorem Kept.cell {p B b o : Nat} {w w' : World} (h : Kept p B w w') (h1 : b < B) (h2 : b ≠ p) : w'.cell? ⟨b, o, none⟩ = w.cell? ⟨b, o, none⟩ := World.cell?_of_block (h b h1 h2)

/-- what a step of line leaves: the feed as it is now, with what it holds -/
def LineIs (w : World) (p B : Nat) (f r : Value) (len a : Int) (L : List Nat) (ans : Int) (e : Ending) (w' : World) : Prop :=
  ∃ h', e = .returned (.int .i64 ans) ∧ FeedB w' p f r h' 0 len 0 0 a ∧ OwnB w' B h' L ∧ w.heap.size ≤ w'.heap.size ∧ Below p w w' ∧ Kept p B w w'

set_option maxRecDepth 100000 in
set_option maxHeartbeats 1000000 in
/-- a byte of a line that does not end with it -/
theorem line_on (p : Nat) (f r h : Value) (len : Int) (a : Int) (L : List Nat) (k : Nat) (B : Nat) (w : World) (hf : FeedB w p f r h 0 len 0 0 a) (hh : OwnB w B h L) (hpB : p < B) (hB : B ≤ w.heap.size) (hl : 0 ≤ len ∧ len < 4000) (hL : L.length ≤ 4000) (hn : ((a == 13) && ((k : Int) == 10)) = false) :
    Calls Try.prog 20 #[.pointer (some ⟨p, 0, none⟩), .int .u8 (k : Int)] w fun e w' => LineIs w p B f r (len + 1) k (L ++ [k]) 0 e w' := by
  obtain ⟨c0, c1, c2, c3, c4, c5, c6, c7, x0, x1, x2, x3, x4, x5, x6, x7⟩ := hf.at
  have HF := Lib.hid hf
  have hcase : ((a == 13) = false ∨ ((a == 13) = true ∧ ((k : Int) == 10) = false)) := by cases h1 : a == 13 <;> simp_all
  have HCs := Lib.hid hcase
  clear hf hn hcase
  rcases HCs.out with h1 | ⟨h1, h2⟩
  all_goals
    clear HCs
    go_enter Try.func20, Try.ntmps20
    go_wp2_with (at_builtin; go_loud (refine app1 rfl (.tmp 12) (.tmp 14) rfl hh (Below.refl B w) hB rfl rfl (by omega) (Lib.hid rfl) ?_); intro o' w2 ho hb2; obtain ⟨oa, oc, rfl⟩ := ho.shape; simp only [List.length_append, List.length_cons, List.length_nil, Nat.zero_add] at ho; have HF2 := Lib.hid (HF.out.keep hb2 hpB); obtain ⟨d0, d1, d2, d3, d4, d5, d6, d7, e0, e1, e2, e3, e4, e5, e6, e7⟩ := HF2.out.at; have HO2 := Lib.hid ho; have HB2 := Lib.hid hb2; have hs2 := hb2.size; clear ho hb2)
    go_ret
    refine ⟨_, rfl, ((HF2.out.set2 _).set4 (len + 1)).set7 k, ((HO2.out.other hpB).other hpB).other hpB, by simp; omega, (((HB2.out.mono (show p ≤ B by omega)).setCell (p := ⟨p, 2, none⟩) (Nat.le_refl _) _).setCell (p := ⟨p, 4, none⟩) (Nat.le_refl _) _).setCell (p := ⟨p, 7, none⟩) (Nat.le_refl _) _, (((Kept.of HB2.out (Nat.le_refl _)).set).set).set⟩
end Go.Proofs.Ytgafalobbhoaoaa
