/-
  The order of the clean things, however many: Swap.
-/
import Derived.Test.YthmnbjdmbajhkaaLess
import Derived.BigRegion
namespace Go.Proofs.Ythmnbjdmbajhkaa
set_option linter.unusedVariables false
open Go.RowKit
attribute [local go_sem] Oper.semAt_some

/-- all blocks but some are as they were -/
structure Beside (own : Nat → Prop) (w w' : World) : Prop where
  os : w'.os = w.os
  tape : w'.tape = w.tape
  output : w'.output = w.output
  size : w.heap.size ≤ w'.heap.size
  block : ∀ k, k < w.heap.size → ¬ own k → w'.heap[k]? = w.heap[k]?
theorem Beside.refl (own : Nat → Prop) (w : World) : Beside own w w := ⟨rfl, rfl, rfl, Nat.le_refl _, fun _ _ _ => rfl⟩
theorem Beside.trans {own : Nat → Prop} {a b c : World} (h : Beside own a b) (k : Beside own b c) : Beside own a c :=
  ⟨k.os.trans h.os, k.tape.trans h.tape, k.output.trans h.output, Nat.le_trans h.size k.size, fun i hi ho => (k.block i (Nat.lt_of_lt_of_le hi h.size) ho).trans (h.block i hi ho)⟩
theorem Beside.mono {own own' : Nat → Prop} {a b : World} (h : Beside own a b) (ho : ∀ k, k < a.heap.size → own k → own' k) : Beside own' a b :=
  ⟨h.os, h.tape, h.output, h.size, fun i hi hn => h.block i hi (fun h' => hn (ho i hi h'))⟩
theorem Beside.setCell {own : Nat → Prop} {a w : World} (h : Beside own a w) {p : Addr} (hp : own p.block ∨ a.heap.size ≤ p.block) (u : Value) : Beside own a (w.setCell p u) :=
  ⟨h.os, h.tape, h.output, by simpa [World.setCell] using h.size, fun i hi hn => (Below.heap_setCell _ _ _ _ (by rintro rfl; rcases hp with hp | hp; exact hn hp; omega)).trans (h.block i hi hn)⟩
theorem Beside.alloc {own : Nat → Prop} {a w : World} (h : Beside own a w) (o : Obj) : Beside own a (w.alloc o) :=
  ⟨h.os, h.tape, h.output, by have := h.size; simp; omega, fun i hi hn => (Below.heap_alloc _ _ _ (Nat.lt_of_lt_of_le hi h.size)).trans (h.block i hi hn)⟩
theorem Beside.drewN {own : Nat → Prop} {a w : World} (h : Beside own a w) (n : Nat) : Beside own a (w.drewN n) := ⟨h.os, h.tape, h.output, h.size, h.block⟩
theorem Beside.drew {own : Nat → Prop} {a w : World} (h : Beside own a w) : Beside own a w.drew := ⟨h.os, h.tape, h.output, h.size, h.block⟩
theorem Beside.grown {own : Nat → Prop} {a w w' : World} {row : Option Nat} (h : Beside own a w) (hg : w.grownBy w' row) (hr : ∀ k, row = some k → own k ∨ a.heap.size ≤ k) : Beside own a w' :=
  ⟨hg.os.trans h.os, hg.tape.trans h.tape, hg.output.trans h.output, Nat.le_trans h.size hg.size, fun i hi hn => (hg.block i (Nat.lt_of_lt_of_le hi h.size) (fun e => by rcases hr i e.symm with hp | hp; exact hn hp; omega)).trans (h.block i hi hn)⟩
theorem Beside.below {own : Nat → Prop} {a b : World} {B : Nat} (h : Beside own a b) (ho : ∀ k, own k → B ≤ k) (hB : B ≤ a.heap.size) : Below B a b :=
  ⟨h.os, h.tape, h.output, h.size, fun k hk => h.block k (by omega) (fun h' => by have := ho k h'; omega)⟩
theorem Below.beside {own : Nat → Prop} {a b : World} (h : Below a.heap.size a b) : Beside own a b := ⟨h.os, h.tape, h.output, h.size, fun k hk _ => h.block k hk⟩
theorem At.beside {own : Nat → Prop} {w w' : World} {p : Nat} {o : Obj} (r : At w p o) (hb : Beside own w w') (h : ¬ own p) : At w' p o := (hb.block p r.lt h).trans r

def thP (x : Th) : Value := .pointer (some ⟨x.blk, 0, none⟩)
/-- the clean things in their order: their pointers in block og, each one's place in its own -/
structure Ord (w : World) (og cap : Nat) (L : List Th) : Prop where
  row : ∃ cur, At w og (.cells cur 57 (0, 0)) ∧ cur.size = cap ∧ L.length ≤ cap ∧ ∀ i (h : i < L.length), cur[i]? = some (thP L[i])
  th : ∀ i (h : i < L.length), At w L[i].blk (.cells (thC L[i] i) 60 (0, 0))
  nd : ∀ i j (hi : i < L.length) (hj : j < L.length), L[i].blk = L[j].blk → i = j
/-- the blocks that are the order's -/
def ordOwn (og : Nat) (L : List Th) (k : Nat) : Prop := k = og ∨ ∃ x ∈ L, x.blk = k

theorem Ord.ne {w : World} {og cap : Nat} {L : List Th} (h : Ord w og cap L) (i : Nat) (hi : i < L.length) : L[i].blk ≠ og := by
  intro e
  obtain ⟨cur, h1, _⟩ := h.row
  have h2 := h.th i hi
  rw [e] at h2
  unfold At at h1 h2
  rw [h1] at h2
  simp at h2
theorem Ord.at {w : World} {og cap : Nat} {L : List Th} (h : Ord w og cap L) (i : Nat) (hi : i < L.length) : w.cell? ⟨og, i, none⟩ = some (thP L[i]) ∧ w.frozen? ⟨og, i, none⟩ = false := by
  obtain ⟨cur, h1, _, _, h2⟩ := h.row
  exact ⟨h1.cell i _ (h2 i hi), h1.froz i⟩
theorem Ord.lt {w : World} {og cap : Nat} {L : List Th} (h : Ord w og cap L) : og < w.heap.size := by
  obtain ⟨cur, h1, _⟩ := h.row
  exact h1.lt
theorem Ord.beside {own : Nat → Prop} {w w' : World} {og cap : Nat} {L : List Th} (h : Ord w og cap L) (hb : Beside own w w') (hn : ∀ k, ordOwn og L k → ¬ own k) : Ord w' og cap L := by
  obtain ⟨cur, h1, h2, h3, h4⟩ := h.row
  exact ⟨⟨cur, h1.beside hb (hn og (.inl rfl)), h2, h3, h4⟩, fun i hi => (h.th i hi).beside hb (hn _ (.inr ⟨_, List.getElem_mem hi, rfl⟩)), h.nd⟩
theorem Ord.below {w w' : World} {og cap : Nat} {L : List Th} (h : Ord w og cap L) (hb : Below w.heap.size w w') : Ord w' og cap L := h.beside (own := fun _ => False) (Below.beside hb) (fun _ _ h => h)

/-- two of them exchanged -/
def swapL (L : List Th) (i j : Nat) : List Th := match L[i]?, L[j]? with | some a, some b => (L.set i b).set j a | _, _ => L
@[simp] theorem swapL_length (L : List Th) (i j : Nat) : (swapL L i j).length = L.length := by
  unfold swapL
  split <;> simp
theorem swapL_eq {L : List Th} {i j : Nat} (hi : i < L.length) (hj : j < L.length) : swapL L i j = (L.set i L[j]).set j L[i] := by
  unfold swapL
  rw [List.getElem?_eq_getElem hi, List.getElem?_eq_getElem hj]
theorem swapL_get {L : List Th} {i j : Nat} (hi : i < L.length) (hj : j < L.length) (k : Nat) (hk : k < L.length) :
    (swapL L i j)[k]'(by simpa using hk) = if k = j then L[i] else if k = i then L[j] else L[k] := by
  simp only [swapL_eq hi hj, List.getElem_set]
  by_cases h1 : k = j
  · subst h1; simp
  · have h1' : ¬ j = k := fun e => h1 e.symm
    rw [if_neg h1', if_neg h1]
    by_cases h2 : k = i
    · subst h2; simp
    · have h2' : ¬ i = k := fun e => h2 e.symm
      rw [if_neg h2', if_neg h2]

theorem thC_set (x : Th) (pl pl' : Int) : (thC x pl).setIfInBounds 4 (.int .i64 pl') = thC x pl' := rfl

set_option maxRecDepth 100000 in
set_option maxHeartbeats 4000000 in
theorem swap_any (og cap i j : Nat) (L : List Th) (w : World) (h : Ord w og cap L) (hi : i < L.length) (hj : j < L.length) (hij : i ≠ j) (hL : L.length ≤ 1000000) :
    Calls Try.prog 50 #[.slice (some ⟨og, 0, none⟩) L.length cap, .int .i64 i, .int .i64 j] w fun e w' => e = .returned (.tuple #[]) ∧ Ord w' og cap (swapL L i j) ∧ Beside (ordOwn og L) w w' := by
  obtain ⟨ci, fi⟩ := h.at i hi
  obtain ⟨cj, fj⟩ := h.at j hj
  have hii : (i : Int) < (L.length : Int) := by omega
  have hji : (j : Int) < (L.length : Int) := by omega
  obtain ⟨cur, hrow, hcs, hcl, hcur⟩ := h.row
  have hta := h.th i hi
  have htb := h.th j hj
  have hna := h.ne i hi
  have hnb := h.ne j hj
  have hab : L[i].blk ≠ L[j].blk := fun e => hij (h.nd i j hi hj e)
  have H := Lib.hid h
  unfold thP at ci cj
  have HCUR := Lib.hid hcur
  have HCS := Lib.hid hcs
  clear h hcur hcs
  generalize ea : L[i] = a at *
  generalize eb : L[j] = b at *
  have HEA := Lib.hid ea
  have HEB := Lib.hid eb
  clear ea eb
  have hcI : i < cur.size := by rw [HCS.out]; omega
  have hcJ : j < cur.size := by rw [HCS.out]; omega
  go_enter Try.func50, Try.ntmps50
  go_wp2_with fail
  go_region
  have r1 := (hrow.set i (.pointer (some ⟨b.blk, 0, none⟩))).set j (.pointer (some ⟨a.blk, 0, none⟩))
  have ta1 := ((hta.other (j := i) (v := .pointer (some ⟨b.blk, 0, none⟩)) hna).other (j := j) (v := .pointer (some ⟨a.blk, 0, none⟩)) hna)
  have tb1 := ((htb.other (j := i) (v := .pointer (some ⟨b.blk, 0, none⟩)) hnb).other (j := j) (v := .pointer (some ⟨a.blk, 0, none⟩)) hnb)
  have hbs : Beside (ordOwn og L) w ((w.setCell ⟨og, i, none⟩ (.pointer (some ⟨b.blk, 0, none⟩))).setCell ⟨og, j, none⟩ (.pointer (some ⟨a.blk, 0, none⟩))) := ((Beside.refl _ w).setCell (p := ⟨og, i, none⟩) (.inl (.inl rfl)) _).setCell (p := ⟨og, j, none⟩) (.inl (.inl rfl)) _
  have hoth : ∀ k, k ≠ og → ((w.setCell ⟨og, i, none⟩ (.pointer (some ⟨b.blk, 0, none⟩))).setCell ⟨og, j, none⟩ (.pointer (some ⟨a.blk, 0, none⟩))).heap[k]? = w.heap[k]? := fun k hk => (Below.heap_setCell _ _ _ _ hk).trans (Below.heap_setCell _ _ _ _ hk)
  have HOTH := Lib.hid hoth
  have HBS := Lib.hid hbs
  clear ci cj fi fj hrow hta htb hbs hoth
  generalize (w.setCell ⟨og, i, none⟩ (.pointer (some ⟨b.blk, 0, none⟩))).setCell ⟨og, j, none⟩ (.pointer (some ⟨a.blk, 0, none⟩)) = W1 at *
  have ci : W1.cell? ⟨og, i, none⟩ = some (.pointer (some ⟨b.blk, 0, none⟩)) := r1.cell i _ (by rw [Array.getElem?_setIfInBounds_ne (fun e => hij e.symm), Array.getElem?_setIfInBounds_self_of_lt hcI])
  have cj : W1.cell? ⟨og, j, none⟩ = some (.pointer (some ⟨a.blk, 0, none⟩)) := r1.cell j _ (by rw [Array.getElem?_setIfInBounds_self_of_lt (by simpa using hcJ)])
  obtain ⟨-, -, -, -, a4, a5, -⟩ := thC_at ta1
  obtain ⟨-, -, -, -, b4, b5, -⟩ := thC_at tb1
  have R1 := Lib.hid r1
  have TA := Lib.hid ta1
  have TB := Lib.hid tb1
  clear r1 ta1 tb1
  go_wp2_with fail
  go_region
  refine bodyPost_end (v := .tuple #[]) (by simp [results, Try.results50, go_sem]) rfl ⟨rfl, ?_, ?_⟩
  · have hgo : ∀ k, k ≠ b.blk → k ≠ a.blk → ((W1.setCell ⟨b.blk, 4, none⟩ (.int .i64 i)).setCell ⟨a.blk, 4, none⟩ (.int .i64 j)).drew.drew.heap[k]? = W1.heap[k]? := fun k h1 h2 => (Below.heap_setCell _ _ _ _ h2).trans (Below.heap_setCell _ _ _ _ h1)
    have hA : At ((W1.setCell ⟨b.blk, 4, none⟩ (.int .i64 i)).setCell ⟨a.blk, 4, none⟩ (.int .i64 j)).drew.drew a.blk (.cells (thC a j) 60 (0, 0)) := by
      have := (TA.out.other (j := 4) (v := .int .i64 i) hab).set 4 (.int .i64 j)
      rwa [thC_set] at this
    have hB : At ((W1.setCell ⟨b.blk, 4, none⟩ (.int .i64 i)).setCell ⟨a.blk, 4, none⟩ (.int .i64 j)).drew.drew b.blk (.cells (thC b i) 60 (0, 0)) := by
      have := (TB.out.set 4 (.int .i64 i)).other (j := 4) (v := .int .i64 j) (fun e => hab e.symm)
      rwa [thC_set] at this
    refine ⟨⟨_, (hgo og (fun e => hnb e.symm) (fun e => hna e.symm)).trans R1.out, by simp [HCS.out], by rw [swapL_length]; exact hcl, fun k hk => ?_⟩, fun k hk => ?_, fun k m hk hm => ?_⟩
    · have hk' : k < L.length := by simpa using hk
      have hkc : k < cur.size := by rw [HCS.out]; omega
      rw [swapL_get hi hj k hk', HEA.out, HEB.out]
      by_cases h1 : k = j
      · subst h1
        rw [if_pos rfl, Array.getElem?_setIfInBounds_self_of_lt (by simpa using hkc)]
        rfl
      · rw [if_neg h1, Array.getElem?_setIfInBounds_ne (fun e => h1 e.symm)]
        by_cases h2 : k = i
        · subst h2
          rw [if_pos rfl, Array.getElem?_setIfInBounds_self_of_lt hkc]
          rfl
        · rw [if_neg h2, Array.getElem?_setIfInBounds_ne (fun e => h2 e.symm)]
          exact HCUR.out k hk'
    · have hk' : k < L.length := by simpa using hk
      rw [swapL_get hi hj k hk', HEA.out, HEB.out]
      by_cases h1 : k = j
      · subst h1
        rw [if_pos rfl]
        exact hA
      · rw [if_neg h1]
        by_cases h2 : k = i
        · subst h2
          rw [if_pos rfl]
          exact hB
        · rw [if_neg h2]
          have n1 : L[k].blk ≠ b.blk := fun e => h1 (H.out.nd k j hk' hj (by rw [HEB.out]; exact e))
          have n2 : L[k].blk ≠ a.blk := fun e => h2 (H.out.nd k i hk' hi (by rw [HEA.out]; exact e))
          exact (hgo _ n1 n2).trans ((HOTH.out _ (H.out.ne k hk')).trans (H.out.th k hk'))
    · have hk' : k < L.length := by simpa using hk
      have hm' : m < L.length := by simpa using hm
      rw [swapL_get hi hj k hk', swapL_get hi hj m hm']
      intro e
      have q1 : (if k = j then L[i] else if k = i then L[j] else L[k]) = L[if k = j then i else if k = i then j else k]'(by split <;> (try split) <;> omega) := by
        by_cases h1 : k = j
        · simp [h1]
        · by_cases h2 : k = i
          · simp [h2, hij]
          · simp [h1, h2]
      have q2 : (if m = j then L[i] else if m = i then L[j] else L[m]) = L[if m = j then i else if m = i then j else m]'(by split <;> (try split) <;> omega) := by
        by_cases h1 : m = j
        · simp [h1]
        · by_cases h2 : m = i
          · simp [h2, hij]
          · simp [h1, h2]
      rw [q1, q2] at e
      have := H.out.nd _ _ _ _ e
      split at this <;> split at this <;> (try split at this) <;> (try split at this) <;> omega
  · have m1 : ordOwn og L b.blk := .inr ⟨b, by rw [← HEB.out]; exact List.getElem_mem hj, rfl⟩
    have m2 : ordOwn og L a.blk := .inr ⟨a, by rw [← HEA.out]; exact List.getElem_mem hi, rfl⟩
    exact ((((HBS.out.setCell (p := ⟨b.blk, 4, none⟩) (.inl m1) _).setCell (p := ⟨a.blk, 4, none⟩) (.inl m2) _)).drew).drew
end Go.Proofs.Ythmnbjdmbajhkaa
