/-
  Plain lemmas on rows of bytes that a call owns, for the walks of this seat.
-/
import Derived.Test.YtfaecojhkiombaaRows
import Derived.WalkKit
import Derived.ProofKit
import Derived.OpenShut
import Derived.ShutString
import Derived.ChangeOld
import Derived.Below
import Derived.Lib.Hide
import Derived.Outline
import Derived.WalkSmall
namespace Go.Proofs.Ytfaecojhkiombaa
set_option linter.unusedVariables false
open Go.RowKit

theorem Try.info5 : (Try.prog.info? 5).map (fun i => (i.zero, i.size, i.bytes)) = some (some (.int .u8 0), 1, 1) := by kernel_rfl

/-- the values of a list of numbers, as bytes -/
def u8s (l : List Nat) : List Value := l.map (fun (n : Nat) => Value.int .u8 n)
@[simp] theorem u8s_length (l : List Nat) : (u8s l).length = l.length := by simp [u8s]
theorem u8s_append (l m : List Nat) : u8s (l ++ m) = u8s l ++ u8s m := by simp [u8s]
theorem u8s_get (l : List Nat) (j : Nat) (h : j < l.length) : (u8s l)[j]? = some (.int .u8 (l[j] : Nat)) := by simp [u8s, h]
theorem u8s_set (l : List Nat) (j n : Nat) : u8s (l.set j n) = (u8s l).set j (.int .u8 n) := by simp [u8s, List.map_set]

/-- v is a row of bytes that the call itself has made (from block B on), and these are they. -/
def OwnB (w : World) (B : Nat) (v : Value) (l : List Nat) : Prop := w.ownsRow B 5 1 v l.length (u8s l)

theorem OwnB.some {w : World} {B : Nat} {v : Value} {l : List Nat} (h : OwnB w B v l) (hn : 0 < l.length) :
    ∃ g cap, v = .slice (some ⟨g, 0, none⟩) l.length cap ∧ B ≤ g ∧ g < w.heap.size := by
  rcases h.2 with ⟨_, h0⟩ | ⟨g, cap, cur, hv, hb, hh, _⟩
  · omega
  · exact ⟨g, cap, hv, hb, (Array.getElem?_eq_some_iff.1 hh).1⟩

theorem OwnB.shape {w : World} {B : Nat} {v : Value} {l : List Nat} (h : OwnB w B v l) : ∃ a cap, v = .slice a l.length cap := by
  rcases h.2 with ⟨hv, h0⟩ | ⟨g, cap, cur, hv, _⟩
  · exact ⟨none, 0, by rw [hv, h0]⟩
  · exact ⟨_, cap, hv⟩

theorem OwnB.alloc {w : World} {B : Nat} {v : Value} {l : List Nat} (h : OwnB w B v l) (o : Obj) : OwnB (w.alloc o) B v l := World.ownsRow.alloc h o
theorem OwnB.drew {w : World} {B : Nat} {v : Value} {l : List Nat} (h : OwnB w B v l) : OwnB w.drew B v l := h

/-- behind an append of one byte -/
theorem OwnB.snoc {w : World} {B : Nat} {v : Value} {l : List Nat} {n : Nat} {k : Nat} (h : w.ownsRow B 5 1 v (k + 1) (u8s l ++ [.int .u8 (n : Nat)])) (hk : k = l.length) : OwnB w B v (l ++ [n]) := by
  subst hk
  unfold OwnB
  rw [u8s_append, List.length_append]
  exact h

theorem OwnB.cell {w : World} {B g n cap : Nat} {l : List Nat} (h : OwnB w B (.slice (Option.some ⟨g, 0, none⟩) n cap) l) (hn : n = l.length) (j : Nat) (hj : j < l.length) : w.cell? ⟨g, j, none⟩ = Option.some (.int .u8 (l[j] : Nat)) := by
  subst hn
  rw [World.ownsRow.cellAt h j (by simpa using hj), u8s_get _ _ hj]

theorem OwnB.free {w : World} {B g n cap : Nat} {l : List Nat} (h : OwnB w B (.slice (Option.some ⟨g, 0, none⟩) n cap) l) (hn : n = l.length) (j : Nat) : w.frozen? ⟨g, j, none⟩ = false := by
  subst hn
  exact World.ownsRow.frozenAt h j

theorem OwnB.set {w : World} {B g n cap : Nat} {l : List Nat} (h : OwnB w B (.slice (Option.some ⟨g, 0, none⟩) n cap) l) (hn : n = l.length) (j c : Nat) : OwnB (w.setCell ⟨g, j, none⟩ (.int .u8 (c : Nat))) B (.slice (Option.some ⟨g, 0, none⟩) n cap) (l.set j c) := by
  subst hn
  unfold OwnB
  rw [List.length_set, u8s_set]
  exact (World.ownsRow.stored h j _).1

theorem OwnB.keep {w w' : World} {B : Nat} {v : Value} {l : List Nat} (h : OwnB w B v l) {S : Nat} (hb : Below S w w') (hs : ∀ k, v.ownBlock = Option.some k → k < S) : OwnB w' B v l := by
  refine ⟨h.1, ?_⟩
  rcases h.2 with h2 | ⟨g, cap, cur, rfl, hg, hh, r⟩
  · exact .inl h2
  · exact .inr ⟨g, cap, cur, rfl, hg, by rw [hb.block g (hs g rfl)]; exact hh, r⟩

/-- two constant cells at the head of a new block -/
theorem one_new (w : World) (a : Value) (t : TypeId) : ∀ j u, [a][j]? = some u → (w.alloc (.cells #[a] t)).cell? ((⟨w.heap.size, 0, none⟩ : Addr).add j) = some u := by
  intro j u hj
  match j, hj with
  | 0, hj => simp at hj; subst hj; simp [Addr.add]

theorem ret_eq {u v : Value} (h : u = v) : Ending.returned u = Ending.returned v := by rw [h]
end Go.Proofs.Ytfaecojhkiombaa
namespace Go.Proofs.Ytfaecojhkiombaa
open Go.RowKit

/-- v is a slice of bytes, wherever it lies, and these are they. -/
def RowB (w : World) (v : Value) (l : List Nat) : Prop :=
  ∃ a len cap, v = .slice a len cap ∧ l.length = len ∧ len ≤ cap ∧ cap ≤ maxLen ∧ (∀ n ∈ l, n < 256) ∧ (a = none → len = 0 ∧ cap = 0) ∧ ∀ x, a = some x → ∀ i, (h : i < l.length) → w.cell? (x.add i) = some (.int .u8 (l[i] : Nat))

theorem rowB_nil (w : World) : RowB w (.slice none 0 0) [] := ⟨none, 0, 0, rfl, rfl, Nat.le_refl _, by decide, by simp, fun _ => ⟨rfl, rfl⟩, by simp⟩

theorem rowB_of_ints {w : World} {a : Addr} {len cap : Nat} {zs : List Int} (hl : len ≤ cap) (hm : cap ≤ maxLen) (hz : zs.length = cap)
    (hcell : ∀ i, i < zs.length → w.cell? (a.add i) = some (.int .u8 (zs.getD i 0))) (hwz : ∀ n ∈ zs, (Lit.int .u8 n).wf = true) :
    RowB w (.slice (some a) len cap) ((zs.take len).map Int.toNat) := by
  have hlen : ((zs.take len).map Int.toNat).length = len := by simp; omega
  refine ⟨some a, len, cap, rfl, hlen, hl, hm, ?_, by simp, ?_⟩
  · intro n hn
    obtain ⟨z, hz', rfl⟩ := List.mem_map.1 hn
    have := Go.bounds_u8 (hwz z (List.mem_of_mem_take hz'))
    omega
  · intro x hx i hi
    obtain rfl := Option.some.inj hx
    rw [hlen] at hi
    have hiz : i < zs.length := by omega
    have hb := Go.bounds_u8 (hwz zs[i] (List.getElem_mem hiz))
    rw [hcell i hiz]
    have : zs.getD i 0 = zs[i] := by simp [List.getD, hiz]
    rw [this]
    simp
    omega

theorem RowB.below {w w1 : World} {v : Value} {l : List Nat} (h : RowB w v l) (hb : Below w.heap.size w w1) : RowB w1 v l := by
  obtain ⟨a, len, cap, e, hl, hc, hm, hw, hn, hcell⟩ := h
  refine ⟨a, len, cap, e, hl, hc, hm, hw, hn, fun x hx i hi => ?_⟩
  have h1 := hcell x hx i hi
  rw [hb.cell (World.block_lt_of_cell? w _ h1)]
  exact h1

theorem bulk_one_le {H : Type} (d : DataW H) : 1 ≤ Rows.uptoBulk d := by
  cases d with
  | lit l => cases l <;> simp [Rows.uptoBulk]
  | nil => simp [Rows.uptoBulk]
  | ptr d => simp [Rows.uptoBulk]
  | slice elems spare => simp [Rows.uptoBulk]
  | agg parts => simp [Rows.uptoBulk]
  | iface t d => simp [Rows.uptoBulk]
  | map entries => simp [Rows.uptoBulk]
  | held h => simp [Rows.uptoBulk]

theorem bulk_length_le {H : Type} (l : List (DataW H)) : l.length ≤ Rows.uptoBulkAll l := by
  induction l with
  | nil => simp [Rows.uptoBulkAll]
  | cons x r ih => have := bulk_one_le x; simp only [Rows.uptoBulkAll, List.length_cons]; omega

theorem bulk_slice_le {H : Type} (elems spare : List (DataW H)) : elems.length + spare.length + 1 ≤ Rows.uptoBulk (.slice elems spare) := by
  have h1 := bulk_length_le elems
  have h2 := bulk_length_le spare
  simp only [Rows.uptoBulk]
  omega
end Go.Proofs.Ytfaecojhkiombaa
