/-
  Plain lemmas on rows of bytes that a call owns, for the walks of this seat.
-/
import Derived.Test.YtacalpgiopgkkaaDoorRows
import Derived.WalkKit
import Derived.ProofKit
import Derived.OpenShut
import Derived.ShutString
import Derived.ChangeOld
import Derived.Below
import Derived.Lib.Hide
import Derived.Outline
import Derived.WalkSmall
namespace Go.Proofs.YtacalpgiopgkkaaDoor
set_option linter.unusedVariables false
open Go.RowKit

theorem Tryd.info5 : (Tryd.prog.info? 5).map (fun i => (i.zero, i.size, i.bytes)) = some (some (.int .u8 0), 1, 1) := by kernel_rfl

/-- the values of a list of numbers, as bytes -/
def u8s (l : List Nat) : List Value := l.map (fun (n : Nat) => Value.int .u8 n)
@[simp] theorem u8s_length (l : List Nat) : (u8s l).length = l.length := by simp [u8s]
theorem u8s_append (l m : List Nat) : u8s (l ++ m) = u8s l ++ u8s m := by simp [u8s]
theorem u8s_get (l : List Nat) (j : Nat) (h : j < l.length) : (u8s l)[j]? = some (.int .u8 (l[j] : Nat)) := by simp [u8s, h]
theorem u8s_set (l : List Nat) (j n : Nat) : u8s (l.set j n) = (u8s l).set j (.int .u8 n) := by simp [u8s, List.map_set]

/-- v is a row of bytes that the call itself has made (from block B on), and these are they. -/
def OwnB (w : World) (B : Nat) (v : Value) (l : List Nat) : Prop := w.ownsRow B 5 1 v l.length (u8s l)

theorem OwnB.some {w : World} {B : Nat} {v : Value} {l : List Nat} (h : OwnB w B v l) (hn : 0 < l.length) :
    ∃ g cap, v = .slice (some ⟨g, 0, none⟩) l.length cap ∧ B ≤ g ∧ g < w.heap.size := by
  rcases h.2 with ⟨_, h0⟩ | ⟨g, cap, cur, hv, hb, hh, _⟩
  · omega
  · exact ⟨g, cap, hv, hb, (Array.getElem?_eq_some_iff.1 hh).1⟩

theorem OwnB.shape {w : World} {B : Nat} {v : Value} {l : List Nat} (h : OwnB w B v l) : ∃ a cap, v = .slice a l.length cap := by
  rcases h.2 with ⟨hv, h0⟩ | ⟨g, cap, cur, hv, _⟩
  · exact ⟨none, 0, by rw [hv, h0]⟩
  · exact ⟨_, cap, hv⟩

theorem OwnB.alloc {w : World} {B : Nat} {v : Value} {l : List Nat} (h : OwnB w B v l) (o : Obj) : OwnB (w.alloc o) B v l := World.ownsRow.alloc h o
theorem OwnB.drew {w : World} {B : Nat} {v : Value} {l : List Nat} (h : OwnB w B v l) : OwnB w.drew B v l := h

/-- behind an append of one byte -/
theorem OwnB.snoc {w : World} {B : Nat} {v : Value} {l : List Nat} {n : Nat} {k : Nat} (h : w.ownsRow B 5 1 v (k + 1) (u8s l ++ [.int .u8 (n : Nat)])) (hk : k = l.length) : OwnB w B v (l ++ [n]) := by
  subst hk
  unfold OwnB
  rw [u8s_append, List.length_append]
  exact h

theorem OwnB.cell {w : World} {B g n cap : Nat} {l : List Nat} (h : OwnB w B (.slice (Option.some ⟨g, 0, none⟩) n cap) l) (hn : n = l.length) (j : Nat) (hj : j < l.length) : w.cell? ⟨g, j, none⟩ = Option.some (.int .u8 (l[j] : Nat)) := by
  subst hn
  rw [World.ownsRow.cellAt h j (by simpa using hj), u8s_get _ _ hj]

theorem OwnB.free {w : World} {B g n cap : Nat} {l : List Nat} (h : OwnB w B (.slice (Option.some ⟨g, 0, none⟩) n cap) l) (hn : n = l.length) (j : Nat) : w.frozen? ⟨g, j, none⟩ = false := by
  subst hn
  exact World.ownsRow.frozenAt h j

theorem OwnB.set {w : World} {B g n cap : Nat} {l : List Nat} (h : OwnB w B (.slice (Option.some ⟨g, 0, none⟩) n cap) l) (hn : n = l.length) (j c : Nat) : OwnB (w.setCell ⟨g, j, none⟩ (.int .u8 (c : Nat))) B (.slice (Option.some ⟨g, 0, none⟩) n cap) (l.set j c) := by
  subst hn
  unfold OwnB
  rw [List.length_set, u8s_set]
  exact (World.ownsRow.stored h j _).1

theorem OwnB.keep {w w' : World} {B : Nat} {v : Value} {l : List Nat} (h : OwnB w B v l) {S : Nat} (hb : Below S w w') (hs : ∀ k, v.ownBlock = Option.some k → k < S) : OwnB w' B v l := by
  refine ⟨h.1, ?_⟩
  rcases h.2 with h2 | ⟨g, cap, cur, rfl, hg, hh, r⟩
  · exact .inl h2
  · exact .inr ⟨g, cap, cur, rfl, hg, by rw [hb.block g (hs g rfl)]; exact hh, r⟩

/-- two constant cells at the head of a new block -/
theorem one_new (w : World) (a : Value) (t : TypeId) : ∀ j u, [a][j]? = some u → (w.alloc (.cells #[a] t)).cell? ((⟨w.heap.size, 0, none⟩ : Addr).add j) = some u := by
  intro j u hj
  match j, hj with
  | 0, hj => simp at hj; subst hj; simp [Addr.add]

theorem ret_eq {u v : Value} (h : u = v) : Ending.returned u = Ending.returned v := by rw [h]

/-- v is a slice of bytes, wherever it lies, and these are they. -/
def RowB (w : World) (v : Value) (l : List Nat) : Prop :=
  ∃ a len cap, v = .slice a len cap ∧ l.length = len ∧ len ≤ cap ∧ cap ≤ maxLen ∧ (∀ n ∈ l, n < 256) ∧ (a = none → len = 0 ∧ cap = 0) ∧ ∀ x, a = some x → ∀ i, (h : i < l.length) → w.cell? (x.add i) = some (.int .u8 (l[i] : Nat))

theorem rowB_nil (w : World) : RowB w (.slice none 0 0) [] := ⟨none, 0, 0, rfl, rfl, Nat.le_refl _, by decide, by simp, fun _ => ⟨rfl, rfl⟩, by simp⟩

theorem rowB_of_ints {w : World} {a : Addr} {len cap : Nat} {zs : List Int} (hl : len ≤ cap) (hm : cap ≤ maxLen) (hz : zs.length = cap)
    (hcell : ∀ i, i < zs.length → w.cell? (a.add i) = some (.int .u8 (zs.getD i 0))) (hwz : ∀ n ∈ zs, (Lit.int .u8 n).wf = true) :
    RowB w (.slice (some a) len cap) ((zs.take len).map Int.toNat) := by
  have hlen : ((zs.take len).map Int.toNat).length = len := by simp; omega
  refine ⟨some a, len, cap, rfl, hlen, hl, hm, ?_, by simp, ?_⟩
  · intro n hn
    obtain ⟨z, hz', rfl⟩ := List.mem_map.1 hn
    have := Go.bounds_u8 (hwz z (List.mem_of_mem_take hz'))
    omega
  · intro x hx i hi
    obtain rfl := Option.some.inj hx
    rw [hlen] at hi
    have hiz : i < zs.length := by omega
    have hb := Go.bounds_u8 (hwz zs[i] (List.getElem_mem hiz))
    rw [hcell i hiz]
    have : zs.getD i 0 = zs[i] := by simp [List.getD, hiz]
    rw [this]
    simp
    omega

theorem RowB.lt {w : World} {v : Value} {l : List Nat} (h : RowB w v l) : ∀ n ∈ l, n < 256 := by
  obtain ⟨a, len, cap, e, hl, hc, hm, hw, _⟩ := h
  exact hw

theorem RowB.below {w w1 : World} {v : Value} {l : List Nat} (h : RowB w v l) (hb : Below w.heap.size w w1) : RowB w1 v l := by
  obtain ⟨a, len, cap, e, hl, hc, hm, hw, hn, hcell⟩ := h
  refine ⟨a, len, cap, e, hl, hc, hm, hw, hn, fun x hx i hi => ?_⟩
  have h1 := hcell x hx i hi
  rw [hb.cell (World.block_lt_of_cell? w _ h1)]
  exact h1

theorem RowB.shape {w : World} {v : Value} {l : List Nat} (h : RowB w v l) :
    (l = [] ∧ ∃ a cap, v = .slice a 0 cap ∧ cap ≤ maxLen) ∨
    ∃ b off cap, v = .slice (some ⟨b, off, none⟩) l.length cap ∧ 0 < l.length ∧ l.length ≤ cap ∧ cap ≤ maxLen ∧ ∀ i, (h : i < l.length) → w.cell? ⟨b, off + i, none⟩ = some (.int .u8 (l[i] : Nat)) := by
  obtain ⟨a, len, cap, e, hl, hc, hm, hw, hn, hcell⟩ := h
  by_cases h0 : l.length = 0
  · left
    exact ⟨List.eq_nil_of_length_eq_zero h0, a, cap, by rw [e, ← hl, h0], hm⟩
  · right
    cases a with
    | none => have := hn rfl; omega
    | some x =>
      obtain ⟨b, off, spot⟩ := x
      have hc0 := hcell _ rfl 0 (by omega)
      have hspot : spot = none := by simpa [Addr.add] using World.cell?_spot hc0
      subst hspot
      refine ⟨b, off, cap, by rw [e, ← hl], by omega, by omega, hm, fun i hi => ?_⟩
      have := hcell _ rfl i hi
      rwa [Addr.add_lit] at this

/-- the memory is as it was -/
def Still (w w' : World) : Prop := Below w.heap.size w w' ∧ w'.heap = w.heap

theorem Still.refl (w : World) : Still w w := ⟨Below.refl _ _, rfl⟩
theorem Still.drewN {w w' : World} (h : Still w w') (n : Nat) : Still w (w'.drewN n) := ⟨below_drewN h.1 n, h.2⟩
theorem Still.drew {w w' : World} (h : Still w w') : Still w w'.drew := ⟨h.1.drew, h.2⟩
theorem Still.trans {a b c : World} (h : Still a b) (k : Still b c) : Still a c := ⟨h.1.trans (k.1.mono h.1.size), k.2.trans h.2⟩
theorem Still.cell {w w' : World} (h : Still w w') (p : Addr) : w'.cell? p = w.cell? p := World.cell?_of_block (by rw [h.2])
theorem Still.frozen {w w' : World} (h : Still w w') (p : Addr) : w'.frozen? p = w.frozen? p := World.frozen?_of_block (by rw [h.2])
theorem Still.owned {w w' : World} (h : Still w w') {B : Nat} {v : Value} {l : List Nat} (ho : OwnB w B v l) : OwnB w' B v l := by
  refine ⟨ho.1, ?_⟩
  rw [h.2]
  exact ho.2
theorem Still.row {w w' : World} (h : Still w w') {v : Value} {l : List Nat} (ho : RowB w v l) : RowB w' v l := ho.below h.1

theorem OwnB.ownLe {w : World} {B : Nat} {v : Value} {l : List Nat} (h : OwnB w B v l) : ∀ k, v.ownBlock = Option.some k → B ≤ k := by
  intro k hk
  exact (World.ownsRow.lt h k hk).1

/-- 'append(out, x)' of one byte to a row of the call's own -/
theorem app1 {ops : Array Oper} {rest : List Oper} {o : Oper} {a : Act} {Q : Exit → Act → World → Prop} (hgd : o.guard = none) (s x : Operand)
    (ho : o.op = .call { callee := .builtin .append, args := #[s, x], argTypes := #[40, 40] })
    {w wr : World} {B : Nat} {v : Value} {l : List Nat} {n : Nat} {z : Int} (hown : OwnB wr B v l) (hbel : Below B w wr) (hB : B ≤ wr.heap.size)
    (hs : a.eval s = v) (hx : a.eval x = .slice (some ⟨wr.heap.size, 0, none⟩) 1 1) (hlen : l.length + 1 ≤ 140737488355328) (hz : Hid (z = (n : Int)))
    (h : ∀ o' w2, OwnB w2 B o' (l ++ [n]) → Below B w w2 → wpList Tryd.prog ops Q rest (a.put o.dst o') w2) :
    wpList Tryd.prog ops Q (o :: rest) a (wr.alloc (.cells #[.int .u8 z] 5)) := by
  obtain ⟨i0, hi, hz0, hz1, hz2⟩ := info_parts Tryd.info5
  refine wpList_append_own _ hgd s x 40 ho B 5 i0 (.int .u8 0) 1 1 Tryd.underlying40 hi hz0 hz1 hz2 rfl (by decide) v l.length (u8s l) hs (World.ownsRow.alloc hown _) ⟨wr.heap.size, 0, none⟩ 1 1 [.int .u8 z] hx rfl (one_new _ _ _) (by simp [Value.oneCell']) (by simp [maxLen]; omega) (by omega) (by simp; omega) ?_
  intro o' w2 ho' hgr _
  have e : z = (n : Int) := hz
  subst e
  exact h o' w2 (OwnB.snoc ho' rfl) ((hbel.alloc hB _).grown hgr (by simp; omega) hown.ownLe)

theorem two_new (w : World) (a b : Value) (t : TypeId) : ∀ j u, [a, b][j]? = some u → (w.alloc (.cells #[a, b] t)).cell? ((⟨w.heap.size, 0, none⟩ : Addr).add j) = some u := cell_two_new w a b t

/-- 'append(out, x, y)' of two bytes -/
theorem app2 {ops : Array Oper} {rest : List Oper} {o : Oper} {a : Act} {Q : Exit → Act → World → Prop} (hgd : o.guard = none) (s x : Operand)
    (ho : o.op = .call { callee := .builtin .append, args := #[s, x], argTypes := #[40, 40] })
    {w wr : World} {B : Nat} {v : Value} {l : List Nat} {n m : Nat} {z y : Int} (hown : OwnB wr B v l) (hbel : Below B w wr) (hB : B ≤ wr.heap.size)
    (hs : a.eval s = v) (hx : a.eval x = .slice (some ⟨wr.heap.size, 0, none⟩) 2 2) (hlen : l.length + 2 ≤ 140737488355328) (hz : Hid (z = (n : Int) ∧ y = (m : Int)))
    (h : ∀ o' w2, OwnB w2 B o' (l ++ [n, m]) → Below B w w2 → wpList Tryd.prog ops Q rest (a.put o.dst o') w2) :
    wpList Tryd.prog ops Q (o :: rest) a (wr.alloc (.cells #[.int .u8 z, .int .u8 y] 5)) := by
  obtain ⟨i0, hi, hz0, hz1, hz2⟩ := info_parts Tryd.info5
  refine wpList_append_own _ hgd s x 40 ho B 5 i0 (.int .u8 0) 1 1 Tryd.underlying40 hi hz0 hz1 hz2 rfl (by decide) v l.length (u8s l) hs (World.ownsRow.alloc hown _) ⟨wr.heap.size, 0, none⟩ 2 2 [.int .u8 z, .int .u8 y] hx rfl (two_new _ _ _ _) (by simp [Value.oneCell']) (by simp [maxLen]; omega) (by omega) (by simp; omega) ?_
  intro o' w2 ho' hgr _
  obtain ⟨e1, e2⟩ : z = (n : Int) ∧ y = (m : Int) := hz
  subst e1 e2
  refine h o' w2 ?_ ((hbel.alloc hB _).grown hgr (by simp; omega) hown.ownLe)
  unfold OwnB
  rw [u8s_append, List.length_append]
  exact ho'

/-- 'append(out, xs...)' of a row of bytes, wherever it lies: at the operation -/
theorem wp_appl {o : Oper} {a : Act} {K : Act → World → Prop} {Q : Exit → Act → World → Prop} (s x : Operand)
    (ho : o.op = .call { callee := .builtin .append, args := #[s, x], argTypes := #[40, 40] })
    {w wr : World} {B : Nat} {v u : Value} {l m : List Nat} (hown : OwnB wr B v l) (hbel : Below B w wr) (hB : B ≤ wr.heap.size) (hr : RowB wr u m)
    (hs : a.eval s = v) (hx : a.eval x = u) (hlen : l.length + m.length ≤ 140737488355328)
    (h : ∀ o' w2, OwnB w2 B o' (l ++ m) → Below B w w2 → wr.grownBy w2 v.ownBlock → K (a.put o.dst o') w2) :
    o.wp Tryd.prog a wr K Q := by
  obtain ⟨i0, hi, hz0, hz1, hz2⟩ := info_parts Tryd.info5
  obtain ⟨ad, len, cap, rfl, hl, hc, hm, hw, hn, hcell⟩ := hr
  cases ad with
  | none =>
    obtain ⟨rfl, rfl⟩ := hn rfl
    obtain rfl : m = [] := List.eq_nil_of_length_eq_zero hl
    have hrun := run_append_owned_none (P := Tryd.prog) wr B 40 o.type 5 i0 1 Tryd.underlying40 hi v l.length (u8s l) hown
    unfold Oper.wp
    simp [execOp, ho, resolve, invoke, builtin, hs, hx, hrun, Result.andThen]
    exact h _ _ (by simpa using hown) hbel (World.grownBy.refl _ _)
  | some x' =>
    refine wp_append_own _ s x 40 ho B 5 i0 (.int .u8 0) 1 1 Tryd.underlying40 hi hz0 hz1 hz2 rfl (by decide) v l.length (u8s l) hs hown x' len cap (u8s m) hx (by simp [hl]) ?_ ?_ (by simp [maxLen]; omega) (by omega) hB ?_
    · intro j u hj
      have hjl : j < m.length := by have := (List.getElem?_eq_some_iff.1 hj).1; simpa using this
      rw [u8s_get m j hjl] at hj
      cases hj
      exact hcell x' rfl j hjl
    · intro u hu
      obtain ⟨_, _, rfl⟩ := List.mem_map.1 hu
      rfl
    · intro o' w2 ho' hgr _
      refine h o' w2 ?_ (hbel.grown hgr hB hown.ownLe) hgr
      unfold OwnB
      rw [u8s_append, List.length_append, hl]
      exact ho'

/-- likewise in a walk -/
theorem appl {ops : Array Oper} {rest : List Oper} {o : Oper} {a : Act} {Q : Exit → Act → World → Prop} (hgd : o.guard = none) (s x : Operand)
    (ho : o.op = .call { callee := .builtin .append, args := #[s, x], argTypes := #[40, 40] })
    {w wr : World} {B : Nat} {v u : Value} {l m : List Nat} (hown : OwnB wr B v l) (hbel : Below B w wr) (hB : B ≤ wr.heap.size) (hr : RowB wr u m)
    (hs : a.eval s = v) (hx : a.eval x = u) (hlen : l.length + m.length ≤ 140737488355328)
    (h : ∀ o' w2, OwnB w2 B o' (l ++ m) → Below B w w2 → wpList Tryd.prog ops Q rest (a.put o.dst o') w2) :
    wpList Tryd.prog ops Q (o :: rest) a wr :=
  wpList_plain hgd fun K hK => wp_appl s x ho hown hbel hB hr hs hx hlen fun o' w2 h1 h2 _ => hK _ _ (h o' w2 h1 h2)

/-- likewise in a region that draws its order -/
theorem step_appl {ops : Array Oper} {o : Oper} {a : Act} {K : Act → World → Prop} {Q : Exit → Act → World → Prop} {E : Prop} (hgd : o.guard = none) (s x : Operand)
    (ho : o.op = .call { callee := .builtin .append, args := #[s, x], argTypes := #[40, 40] })
    {w wr : World} {B : Nat} {v u : Value} {l m : List Nat} (hown : OwnB wr B v l) (hbel : Below B w wr) (hB : B ≤ wr.heap.size) (hr : RowB wr u m)
    (hs : a.eval s = v) (hx : a.eval x = u) (hlen : l.length + m.length ≤ 140737488355328)
    (h : ∀ o' w2, OwnB w2 B o' (l ++ m) → Below B w w2 → wr.grownBy w2 v.ownBlock → K (a.put o.dst o') w2) :
    if Region.wanted o (yielded ops a.tmps) = true then Oper.wp Tryd.prog o a wr K Q else E := by
  have hw : Region.wanted o (yielded ops a.tmps) = true := by simp [Region.wanted, hgd]
  rw [if_pos hw]
  exact wp_appl s x ho hown hbel hB hr hs hx hlen h

theorem OwnB.row {w : World} {B : Nat} {v : Value} {l : List Nat} (h : OwnB w B v l) (hl : ∀ n ∈ l, n < 256) : RowB w v l := by
  rcases h.2 with ⟨rfl, h0⟩ | ⟨g, cap, cur, rfl, hb, hh, hn, hm, hs, ht⟩
  · obtain rfl : l = [] := List.eq_nil_of_length_eq_zero h0
    exact rowB_nil w
  · refine ⟨_, _, _, rfl, rfl, hn, hm, hl, by simp, ?_⟩
    intro x hx i hi
    obtain rfl := Option.some.inj hx
    rw [Addr.add_lit, Nat.zero_add]
    exact OwnB.cell h rfl i hi

theorem bulk_one_le {H : Type} (d : DataW H) : 1 ≤ Rows.uptoBulk d := by
  cases d with
  | lit l => cases l <;> simp [Rows.uptoBulk]
  | nil => simp [Rows.uptoBulk]
  | ptr d => simp [Rows.uptoBulk]
  | slice elems spare => simp [Rows.uptoBulk]
  | agg parts => simp [Rows.uptoBulk]
  | iface t d => simp [Rows.uptoBulk]
  | map entries => simp [Rows.uptoBulk]
  | held h => simp [Rows.uptoBulk]

theorem bulk_length_le {H : Type} (l : List (DataW H)) : l.length ≤ Rows.uptoBulkAll l := by
  induction l with
  | nil => simp [Rows.uptoBulkAll]
  | cons x r ih => have := bulk_one_le x; simp only [Rows.uptoBulkAll, List.length_cons]; omega

theorem bulk_slice_le {H : Type} (elems spare : List (DataW H)) : elems.length + spare.length + 1 ≤ Rows.uptoBulk (.slice elems spare) := by
  have h1 := bulk_length_le elems
  have h2 := bulk_length_le spare
  simp only [Rows.uptoBulk]
  omega
def strN (l : List Nat) : ByteArray := ⟨(l.map UInt8.ofNat).toArray⟩
theorem strN_toList (l : List Nat) : (strN l).toList = l.map UInt8.ofNat := by simp [strN]

theorem strN_inj {l m : List Nat} (hl : ∀ n ∈ l, n < 256) (hm : ∀ n ∈ m, n < 256) (h : l.map UInt8.ofNat = m.map UInt8.ofNat) : l = m := by
  induction l generalizing m with
  | nil => cases m with
    | nil => rfl
    | cons => simp at h
  | cons a l ih => cases m with
    | nil => simp at h
    | cons b m =>
      simp only [List.map_cons, List.cons.injEq] at h
      have ha := hl a (by simp)
      have hb := hm b (by simp)
      have e1 : a = b := by
        have := congrArg UInt8.toNat h.1
        simp at this
        omega
      rw [e1, ih (fun n hn => hl n (by simp [hn])) (fun n hn => hm n (by simp [hn])) h.2]

theorem ints_of (l : List Nat) : strOfNums (l.map (fun (n : Nat) => (n : Int))) = strN l := by simp [strOfNums, strN, Function.comp_def]

/-- bytes as a text -/
theorem run_str {w : World} {v : Value} {l : List Nat} (h : RowB w v l) : (convert 40 9 v).run Tryd.prog w = .ok (.string (strN l)) w := by
  obtain ⟨a, len, cap, rfl, hl, hc, hm, hw, hn, hcell⟩ := h
  cases a with
  | none =>
    obtain ⟨rfl, rfl⟩ := hn rfl
    obtain rfl : l = [] := List.eq_nil_of_length_eq_zero hl
    exact run_convert_bytes_nil w 40 5 Tryd.underlying40 Tryd.underlying5 0 0 9 Tryd.underlying9
  | some x =>
    rw [run_convert_bytes_string w 40 9 5 _ len cap Tryd.underlying40 Tryd.underlying5 Tryd.underlying9,
      run_bytesToString w x len cap (l.map (fun (n : Nat) => (n : Int))) ?_, foldl_push_bytes]
    · rw [← ints_of]
      simp [strOfNums, ByteArray.empty, ByteArray.emptyWithCapacity]
      rfl
    · have := run_loadCells_list (P := Tryd.prog) w x (u8s l) (fun j v hj => by
        have hjl : j < l.length := by have := (List.getElem?_eq_some_iff.1 hj).1; simpa using this
        rw [u8s_get l j hjl] at hj
        cases hj
        exact hcell x rfl j hjl)
      rw [u8s_length, hl] at this
      rw [this]
      simp [u8s, Function.comp_def]
end Go.Proofs.YtacalpgiopgkkaaDoor
