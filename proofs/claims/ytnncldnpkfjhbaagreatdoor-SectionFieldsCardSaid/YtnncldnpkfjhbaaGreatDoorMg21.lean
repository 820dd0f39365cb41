/-
  Several texts of one proof, each in a section of its own: PtP, PtV, CntE.
-/
import Derived.Test.YtnncldnpkfjhbaaGreatDoorSpnWMg
import Derived.Test.YtnncldnpkfjhbaaGreatDoorMg19
import Derived.Test.YtnncldnpkfjhbaaGreatDoorMg14
import Derived.Test.YtnncldnpkfjhbaaGreatDoorMg20
import Derived.Test.YtnncldnpkfjhbaaGreatDoorMg4
import Derived.Test.YtnncldnpkfjhbaaGreatDoorPreMg
namespace Go.Proofs.YtnncldnpkfjhbaaGreatDoor
section
set_option linter.unusedVariables false
open Go.RowKit Go.Lib

/-- a field's name and text are no longer than what they lie in -/
def NT (f : Fd) : Prop := f.T.length ≤ f.R.length ∧ f.nm.size ≤ f.R.length
def TleR (s : List Fd × Option Fd) : Prop := (∀ f ∈ s.1, NT f) ∧ ∀ f ∈ s.2, NT f
theorem nameT_len (tx : List Nat) : (nameT tx).size ≤ tx.length := by
  unfold nameT
  split
  · rename_i n _
    have : (strN ((tx.take n).map lowN)).size = ((tx.take n).map lowN).length := by unfold strN; simp [ByteArray.size]
    rw [this]
    simp
    omega
  · exact Nat.zero_le _
theorem stepF_TR {s : List Fd × Option Fd} {wh tx : List Nat} (h : TleR s) (h1 : tx.length ≤ wh.length) : TleR (stepF s wh tx) := by
  unfold stepF
  split
  · refine ⟨h.1, fun f hf => ?_⟩
    obtain ⟨g, hg, rfl⟩ := Option.map_eq_some_iff.1 hf
    have := h.2 g hg
    unfold NT at this ⊢
    simp
    omega
  · refine ⟨fun f hf => ?_, fun f hf => ?_⟩
    · rcases List.mem_append.1 hf with hf | hf
      · exact h.1 f hf
      · exact h.2 f (by simpa using hf)
    · obtain ⟨g, hg, rfl⟩ := Option.map_eq_some_iff.1 hf
      have := nameT_len tx
      unfold NT
      simp
      omega
theorem runF_TR (l : List Nat) (xs : List (Nat × Nat × Nat)) : (∀ x ∈ xs, x.2.2 ≤ x.2.1) → ∀ s : List Fd × Option Fd, TleR s → TleR (runF l s xs) := by
  induction xs with
  | nil => intro _ s h; simpa [runF] using h
  | cons x xs ih =>
    intro hx s h
    exact ih (fun y hy => hx y (by simp [hy])) _ (stepF_TR h (by have := hx x (by simp); simp [lineW, lineT]; omega))
theorem rawF_mem {fs : List Fd} {f : Fd} (h : f ∈ fs) : f.R.length ≤ (rawF fs).length := by
  induction fs with
  | nil => cases h
  | cons g fs ih =>
    rcases List.mem_cons.1 h with rfl | h
    · simp [rawF]
    · have := ih h
      simp [rawF] at this ⊢
      omega
theorem fieldsS_T (l : List Nat) : ∀ f ∈ fieldsS l, f.T.length ≤ l.length ∧ f.nm.size ≤ l.length := by
  intro f hf
  have h := runF_TR l (headF (linesP 0 l)) (fun x hx => ((lines_in l.length 0 l (Nat.le_refl _)).2 x (List.IsPrefix.mem hx (List.takeWhile_prefix _))).2.2) ([], none) ⟨by simp, by simp⟩
  have h2 := fieldsS_tot l
  have h3 := rawF_mem hf
  have h4 : NT f := by
    rcases List.mem_append.1 hf with hf | hf
    · exact h.1 f hf
    · exact h.2 f (by simpa using hf)
  unfold NT at h4
  omega
theorem cutT_len (T : List Nat) : (cutT T).size ≤ T.length := by
  have h1 := cutL_le (strT T).data.toList
  have h2 : (strT T).data.toList.length = T.length := by simp [strT]
  rw [h2] at h1
  exact h1
theorem toldS_len (l : List Nat) : ∀ x ∈ toldS l, x.1.size ≤ l.length ∧ x.2.size ≤ l.length := by
  intro x hx
  obtain ⟨f, hf, rfl⟩ := List.mem_map.1 hx
  exact ⟨(fieldsS_T l f hf).2, Nat.le_trans (cutT_len f.T) (fieldsS_T l f hf).1⟩
theorem getS_len {L : List Tk} {N : Nat} (h : ∀ x ∈ L, x.2.size ≤ N) (nm : ByteArray) : (getS L nm).1.size ≤ N := by
  unfold getS
  split
  · rename_i x hx
    exact h x (List.mem_of_find?_eq_some hx)
  · exact Nat.zero_le _

theorem tksV_at (L : List Tk) (i : Nat) (h : i < L.length) : (tksV L)[i * 2]? = some (.string L[i].1) ∧ (tksV L)[i * 2 + 1]? = some (.string L[i].2) := by
  induction L generalizing i with
  | nil => simp at h
  | cons x L ih =>
    have e : tksV (x :: L) = .string x.1 :: .string x.2 :: tksV L := rfl
    rw [e]
    cases i with
    | zero => exact ⟨rfl, rfl⟩
    | succ i =>
      have := ih i (by simpa using h)
      rw [show (i + 1) * 2 = i * 2 + 1 + 1 by omega]
      simpa using this
/-- what Fields tells can be read -/
theorem OwnT.tks {w : World} {B : Nat} {v : Value} {L : List Tk} (h : OwnT w B v L) (hs : ∀ x ∈ L, x.1.size ≤ 140737488351232 ∧ x.2.size ≤ 140737488351232) : TksIn w v L := by
  refine ⟨hs, ?_⟩
  rcases h.2 with ⟨hv, h0⟩ | ⟨g, cap, cur, hv, hB, hh, hc, hm, hsz, ht⟩
  · exact .inl ⟨List.eq_nil_of_length_eq_zero h0, none, 0, by rw [hv]⟩
  · refine .inr ⟨g, 0, cap, hv, (Array.getElem?_eq_some_iff.1 hh).1, hc, fun i hi => ?_⟩
    have h2 := tksV_at L i hi
    rw [← ht, List.getElem?_take, if_pos (by omega), List.getElem?_take, if_pos (by omega)] at h2
    rw [Nat.zero_add, cell_of_row _ _ _ _ _ _ hh, cell_of_row _ _ _ _ _ _ hh]
    simpa using h2
theorem strL_back (s : ByteArray) : strL s.data.toList = s := by
  apply ByteArray.ext
  simp [strL]

/-- the tree -/
inductive PT where
  | mk (ty sub : List UInt8) (hd fr en ln : Nat) (kids : List PT)
def PT.ty : PT → List UInt8 | .mk ty _ _ _ _ _ _ => ty
def PT.sub : PT → List UInt8 | .mk _ sub _ _ _ _ _ => sub
def PT.head : PT → Nat | .mk _ _ h _ _ _ _ => h
def PT.frm : PT → Nat | .mk _ _ _ f _ _ _ => f
def PT.to : PT → Nat | .mk _ _ _ _ t _ _ => t
def PT.lines : PT → Nat | .mk _ _ _ _ _ n _ => n
def PT.kids : PT → List PT | .mk _ _ _ _ _ _ k => k

def ctN : ByteArray := ⟨#[99, 111, 110, 116, 101, 110, 116, 45, 116, 121, 112, 101]⟩
def rngS (l : List Nat) (f t : Nat) : List Nat := (l.take t).drop f
theorem rngS_len {l : List Nat} {f t : Nat} (h : t ≤ l.length) : (rngS l f t).length = t - f := by unfold rngS; rw [List.length_drop, List.length_take]; omega
/-- where the body begins -/
def bodyS (l : List Nat) (f t : Nat) : Nat := f + splitS (rngS l f t)
/-- the text of Content-Type -/
def ctS (l : List Nat) (f t : Nat) : List UInt8 := (getS (toldS (rngS l f (bodyS l f t))) ctN).1.data.toList
def multiL : List UInt8 := [109, 117, 108, 116, 105, 112, 97, 114, 116]
def messL : List UInt8 := [109, 101, 115, 115, 97, 103, 101]
def rfcL : List UInt8 := [114, 102, 99, 56, 50, 50]
def cntS (l : List Nat) (f t : Nat) : Nat := (rngS l f t).count 10
def partS (l : List Nat) : Nat → Nat → Nat → PT
  | 0, f, t => .mk (kindS (ctS l f t)) (subS (ctS l f t)) f (bodyS l f t) t (cntS l (bodyS l f t) t) []
  | k + 1, f, t => .mk (kindS (ctS l f t)) (subS (ctS l f t)) f (bodyS l f t) t (cntS l (bodyS l f t) t)
    (if kindS (ctS l f t) = multiL ∧ bndS (ctS l f t) ≠ [] then (spansS l ((bndS (ctS l f t)).map UInt8.toNat) (bodyS l f t) t).map fun p => partS l k p.1 p.2
     else if kindS (ctS l f t) = messL ∧ subS (ctS l f t) = rfcL then [partS l k (bodyS l f t) t] else [])

theorem bodyS_le {l : List Nat} {f t : Nat} (hf : f ≤ t) (ht : t ≤ l.length) : f ≤ bodyS l f t ∧ bodyS l f t ≤ t := by
  have h := splitS_le (rngS l f t)
  rw [rngS_len ht] at h
  unfold bodyS
  omega
theorem ctS_len {l : List Nat} {f t : Nat} (hf : f ≤ t) (ht : t ≤ l.length) : (ctS l f t).length ≤ l.length := by
  have hb := bodyS_le hf ht
  have h := getS_len (fun x hx => (toldS_len (rngS l f (bodyS l f t)) x hx).2) ctN
  rw [rngS_len (by omega)] at h
  show (getS _ _).1.size ≤ _
  omega
/-- all pieces lie within -/
theorem runSp_in {l bd : List Nat} {t : Nat} (f : Nat) : ∀ (xs : List (Nat × Nat × Nat)) (s : List (Nat × Nat) × Option Nat) (m : Nat), f ≤ m →
    (∀ x ∈ xs, x.1 + x.2.1 ≤ t) → List.Pairwise (fun x y : Nat × Nat × Nat => x.1 + x.2.1 ≤ y.1) xs → (∀ x ∈ xs, m ≤ x.1) → m ≤ t →
    (∀ p ∈ s.1, f ≤ p.1 ∧ p.1 ≤ p.2 ∧ p.2 ≤ t) → (∀ g ∈ s.2, f ≤ g ∧ g ≤ m) →
    ∀ p ∈ runSp l bd t xs s, f ≤ p.1 ∧ p.1 ≤ p.2 ∧ p.2 ≤ t := by
  intro xs
  induction xs with
  | nil =>
    intro s m hm hx hp hxm hmt h1 h2
    unfold runSp
    split
    · rename_i g hg
      have h3 := h2 g (by rw [hg]; rfl)
      intro p hp
      rcases List.mem_append.1 hp with hp | hp
      · exact h1 p hp
      · obtain rfl : p = (g, t) := by simpa using hp
        simp
        omega
    · exact h1
  | cons x xs ih =>
    intro s m hm hx hp hxm hmt h1 h2
    have hx0 := hx x (by simp)
    have hxm0 := hxm x (by simp)
    have hc : ∀ p ∈ closeS l s x.1, f ≤ p.1 ∧ p.1 ≤ p.2 ∧ p.2 ≤ t := by
      unfold closeS
      split
      · rename_i g hg
        have h3 := h2 g (by rw [hg]; rfl)
        intro p hp
        rcases List.mem_append.1 hp with hp | hp
        · exact h1 p hp
        · obtain rfl : p = (g, woE l g x.1) := by simpa using hp
          have := woE_le l g x.1
          have := woE_ge l g x.1 (by omega)
          simp
          omega
      · exact h1
    have hp2 := List.pairwise_cons.1 hp
    unfold runSp
    split
    · exact ih s m hm (fun y hy => hx y (by simp [hy])) hp2.2 (fun y hy => hxm y (by simp [hy])) hmt h1 h2
    · split
      · exact hc
      · exact ih (closeS l s x.1, some (x.1 + x.2.1)) (x.1 + x.2.1) (by omega) (fun y hy => hx y (by simp [hy])) hp2.2 (fun y hy => hp2.1 y hy) (by omega) hc (by simp; omega)
theorem lines_apart (n : Nat) : ∀ (k : Nat) (r : List Nat), r.length ≤ n → List.Pairwise (fun x y : Nat × Nat × Nat => x.1 + x.2.1 ≤ y.1) (linesP k r) := by
  induction n with
  | zero =>
    intro k r h
    have : r = [] := List.eq_nil_of_length_eq_zero (by omega)
    subst this
    rw [linesP_nil]
    exact List.Pairwise.nil
  | succ n ih =>
    intro k r h
    by_cases hr : r = []
    · subst hr; rw [linesP_nil]; exact List.Pairwise.nil
    · rw [linesP_cons k hr]
      have h1 := wholeN_pos hr
      refine List.pairwise_cons.2 ⟨fun y hy => ?_, ih _ _ (by simp; omega)⟩
      exact ((lines_in _ _ _ (Nat.le_refl _)).2 y hy).1
theorem spansS_in {l bd : List Nat} {f t : Nat} (hf : f ≤ t) (ht : t ≤ l.length) : ∀ p ∈ spansS l bd f t, f ≤ p.1 ∧ p.1 ≤ p.2 ∧ p.2 ≤ t := by
  have hl := (lines_in _ f ((l.take t).drop f) (Nat.le_refl _)).2
  have hrl : ((l.take t).drop f).length = t - f := rngS_len ht
  exact runSp_in f _ _ f (Nat.le_refl _) (fun x hx => by have := hl x hx; omega) (lines_apart _ f _ (Nat.le_refl _)) (fun x hx => (hl x hx).1) hf (by simp) (by simp)
theorem closeS_len0 (l : List Nat) (s : List (Nat × Nat) × Option Nat) (k : Nat) : (closeS l s k).length ≤ s.1.length + 1 := by
  unfold closeS
  split <;> simp
theorem runSp_len {l bd : List Nat} {t : Nat} : ∀ (xs : List (Nat × Nat × Nat)) (s : List (Nat × Nat) × Option Nat), s.1.length ≤ 29 → (runSp l bd t xs s).length ≤ 30 := by
  intro xs
  induction xs with
  | nil =>
    intro s h
    unfold runSp
    split
    · simp; omega
    · omega
  | cons x xs ih =>
    intro s h
    have hc := closeS_len0 l s x.1
    unfold runSp
    split
    · exact ih s h
    · split
      · omega
      · exact ih _ (by show (closeS l s x.1).length ≤ 29; omega)
theorem spansS_len (l bd : List Nat) (f t : Nat) : (spansS l bd f t).length ≤ 30 := runSp_len _ _ (by simp)
/-- a part lies in its range -/
theorem partS_in {l : List Nat} (k : Nat) {f t : Nat} (hf : f ≤ t) (ht : t ≤ l.length) : (partS l k f t).head = f ∧ (partS l k f t).frm = bodyS l f t ∧ (partS l k f t).to = t := by
  cases k <;> exact ⟨rfl, rfl, rfl⟩
theorem bndS_len (l : List UInt8) : (bndS l).length ≤ 70 := by
  have h : ∀ S : List (List UInt8), (boundS S).length ≤ 70 := by
    intro S
    induction S with
    | nil => simp [boundS]
    | cons p r ih =>
      unfold boundS
      split
      · split
        · rename_i h
          unfold boundB at h
          simp at h
          omega
        · simp
      · exact ih
  exact h _
end
section
set_option linter.unusedVariables false
open Go.RowKit Go.Lib

def headV (p : PT) (v : Value) : List Value := [.string (strL p.ty), .string (strL p.sub), .int .i64 (p.head : Nat), .int .i64 (p.frm : Nat), .int .i64 (p.to : Nat), .int .i64 (p.lines : Nat), v]
/-- the part's cells, its row of parts and theirs in blocks of X -/
def PtV : Nat → (Nat → Prop) → World → PT → List Value → Prop
  | 0, _, _, p, cs => p.kids = [] ∧ cs = headV p (.slice none 0 0)
  | k + 1, X, W, p, cs => ∃ v xs, cs = headV p v ∧ W.ownsRow 0 37 7 v p.kids.length xs ∧ (∀ g, v.ownBlock = some g → X g) ∧ ∀ i (h : i < p.kids.length), PtV k X W p.kids[i] ((xs.drop (i * 7)).take 7)

theorem PtV.shape {k : Nat} {X : Nat → Prop} {W : World} {p : PT} {cs : List Value} (h : PtV k X W p cs) : ∃ a c, cs = headV p (.slice a p.kids.length c) := by
  cases k with
  | zero => exact ⟨none, 0, by rw [h.1]; exact h.2⟩
  | succ k =>
    obtain ⟨v, xs, e, hr, _⟩ := h
    rcases hr.2 with ⟨hv, h0⟩ | ⟨g, cap, cur, hv, _⟩
    · exact ⟨none, 0, by rw [e, hv, h0]⟩
    · exact ⟨_, cap, by rw [e, hv]⟩
theorem PtV.len {k : Nat} {X : Nat → Prop} {W : World} {p : PT} {cs : List Value} (h : PtV k X W p cs) : cs.length = 7 := by
  obtain ⟨a, c, rfl⟩ := h.shape
  rfl
theorem ownsRow_same {W W' : World} {B e s n : Nat} {v : Value} {xs : List Value} (h : W.ownsRow B e s v n xs) (hk : ∀ g, v.ownBlock = some g → ∀ C fz, W.heap[g]? = some (.cells C e fz) → W'.heap[g]? = W.heap[g]?) : W'.ownsRow B e s v n xs := by
  refine ⟨h.1, ?_⟩
  rcases h.2 with h2 | ⟨g, cap, cur, hv, hB, hh, r⟩
  · exact .inl h2
  · exact .inr ⟨g, cap, cur, hv, hB, (hk g (by rw [hv]; rfl) _ _ hh).trans hh, r⟩
theorem PtV.keep {X Y : Nat → Prop} {W W' : World} : ∀ {k : Nat} {p : PT} {cs : List Value}, PtV k X W p cs → (∀ g, X g → Y g) → (∀ g, X g → ∀ C fz, W.heap[g]? = some (.cells C 37 fz) → W'.heap[g]? = W.heap[g]?) → PtV k Y W' p cs
  | 0, p, cs, h, _, _ => h
  | k + 1, p, cs, ⟨v, xs, e, hr, hX, hk⟩, hY, hW => ⟨v, xs, e, ownsRow_same hr fun g hg C fz hh => hW g (hX g hg) C fz hh, fun g hg => hY g (hX g hg), fun i hi => PtV.keep (hk i hi) hY hW⟩
/-- the blocks of a part lie within the heap -/
theorem PtV.lt {X : Nat → Prop} {W : World} : ∀ {k : Nat} {p : PT} {cs : List Value}, PtV k X W p cs → PtV k (fun g => X g ∧ g < W.heap.size) W p cs
  | 0, p, cs, h => h
  | k + 1, p, cs, ⟨v, xs, e, hr, hX, hk⟩ => ⟨v, xs, e, hr, fun g hg => ⟨hX g hg, (World.ownsRow.lt hr g hg).2⟩, fun i hi => (hk i hi).lt⟩
theorem ownsRow_to0 {w : World} {B e s n : Nat} {v : Value} {xs : List Value} (h : w.ownsRow B e s v n xs) : w.ownsRow 0 e s v n xs := ⟨h.1, by
  rcases h.2 with h2 | ⟨g, cap, cur, hv, hB, r⟩
  · exact .inl h2
  · exact .inr ⟨g, cap, cur, hv, Nat.zero_le _, r⟩⟩

/-- the first parts of a row, as they are gathered -/
def KidsV (k : Nat) (X : Nat → Prop) (W : World) (ps : List PT) (xs : List Value) : Prop := xs.length = ps.length * 7 ∧ ∀ i (h : i < ps.length), PtV k X W ps[i] ((xs.drop (i * 7)).take 7)
theorem KidsV.nil (k : Nat) (X : Nat → Prop) (W : World) : KidsV k X W [] [] := ⟨rfl, fun i h => absurd h (by simp)⟩
theorem KidsV.keep {k : Nat} {X Y : Nat → Prop} {W W' : World} {ps : List PT} {xs : List Value} (h : KidsV k X W ps xs) (hY : ∀ g, X g → Y g) (hW : ∀ g, X g → ∀ C fz, W.heap[g]? = some (.cells C 37 fz) → W'.heap[g]? = W.heap[g]?) : KidsV k Y W' ps xs :=
  ⟨h.1, fun i hi => (h.2 i hi).keep hY hW⟩
theorem KidsV.lt {k : Nat} {X : Nat → Prop} {W : World} {ps : List PT} {xs : List Value} (h : KidsV k X W ps xs) : KidsV k (fun g => X g ∧ g < W.heap.size) W ps xs := ⟨h.1, fun i hi => (h.2 i hi).lt⟩
theorem KidsV.snoc {k : Nat} {X : Nat → Prop} {W : World} {ps : List PT} {xs cs : List Value} {p : PT} (h : KidsV k X W ps xs) (hp : PtV k X W p cs) : KidsV k X W (ps ++ [p]) (xs ++ cs) := by
  have hl := hp.len
  refine ⟨by simp [h.1, hl]; omega, fun i hi => ?_⟩
  by_cases hlt : i < ps.length
  · rw [List.getElem_append_left hlt, List.drop_append_of_le_length (by rw [h.1]; omega), List.take_append_of_le_length (by rw [List.length_drop, h.1]; omega)]
    exact h.2 i hlt
  · have he : i = ps.length := by simp at hi; omega
    subst he
    rw [List.getElem_append_right (Nat.le_refl _), ← h.1, List.drop_left, List.take_of_length_le (by omega)]
    simpa using hp
theorem PtV.ofKids {k : Nat} {X : Nat → Prop} {W : World} {p : PT} {v : Value} {xs : List Value} {B : Nat} (hr : W.ownsRow B 37 7 v p.kids.length xs) (hX : ∀ g, v.ownBlock = some g → X g) (h : KidsV k X W p.kids xs) : PtV (k + 1) X W p (headV p v) :=
  ⟨v, xs, rfl, ownsRow_to0 hr, hX, h.2⟩
end
section
set_option linter.unusedVariables false
open Go.RowKit Go.Lib Go.Shelf

/-- what lies where, of bytes that can be read -/
theorem RowB.at {w : World} {a : Option Addr} {n cap : Nat} {l : List Nat} (h : RowB w (.slice a n cap) l) :
    l.length = n ∧ n ≤ cap ∧ cap ≤ maxLen ∧ ∃ lb lo, (l ≠ [] → a = some ⟨lb, lo, none⟩ ∧ lb < w.heap.size) ∧ CellsL w lb lo l := by
  obtain ⟨a', len, cp, e, hl, hc, hm, hb, hn, hcell⟩ := id h
  simp only [Value.slice.injEq] at e
  obtain ⟨rfl, rfl, rfl⟩ := e
  refine ⟨hl, hc, hm, ?_⟩
  rcases h.shape with ⟨rfl, _⟩ | ⟨b, off, cap', e, h0, h1, h2, h3⟩
  · exact ⟨0, 0, fun h => absurd rfl h, fun i hi => absurd hi (by simp)⟩
  · simp only [Value.slice.injEq] at e
    refine ⟨b, off, fun _ => ⟨e.1, ?_⟩, h3⟩
    exact World.block_lt_of_cell? w _ (h3 0 h0)
theorem addr_add (x : Addr) (i j : Nat) : (x.add i).add j = x.add (i + j) := by
  unfold Addr.add
  obtain ⟨b, o, s⟩ := x
  by_cases hi : i = 0
  · subst hi; simp
  · by_cases hj : j = 0
    · subst hj; simp [hi]
    · simp [hi, hj, Nat.add_assoc]
theorem RowB.rng {w : World} {a : Option Addr} {n cap f t : Nat} {l : List Nat} (h : RowB w (.slice a n cap) l) (hf : f ≤ t) (ht : t ≤ n) : RowB w (.slice (if cap = f then a else a.map fun x => x.add f) (t - f) (cap - f)) (rngS l f t) := by
  obtain ⟨a', len, cp, e, hl, hc, hm, hb, hn, hcell⟩ := id h
  simp only [Value.slice.injEq] at e
  obtain ⟨rfl, rfl, rfl⟩ := e
  have hrl : (rngS l f t).length = t - f := rngS_len (by omega)
  refine ⟨_, _, _, rfl, hrl, by omega, by omega, fun n hn => hb n (List.mem_of_mem_take (List.mem_of_mem_drop hn)), ?_, ?_⟩
  · intro h0
    split at h0
    · have := hn h0
      omega
    · obtain rfl : a = none := by simpa using h0
      have := hn rfl
      omega
  · intro x hx i hi
    split at hx
    · omega
    · obtain ⟨y, hy, rfl⟩ := Option.map_eq_some_iff.1 hx
      rw [addr_add, hcell y hy (f + i) (by omega)]
      have : (rngS l f t)[i] = l[f + i] := by simp [rngS]
      rw [this]
theorem countN (l : List Nat) (hl : ∀ n ∈ l, n < 256) : Lib.countByte (Lib.bytesOf (l.map fun n : Nat => (n : Int))) (Int.toNat 10).toUInt8 = l.count 10 := by
  rw [bytesOf_map]
  unfold Lib.countByte
  induction l with
  | nil => rfl
  | cons a l ih =>
    rw [List.map_cons, List.count_cons, List.count_cons, ih fun n h => hl n (by simp [h])]
    have ha := hl a (by simp)
    by_cases e : a = 10
    · subst e; rfl
    · have : ¬ UInt8.ofNat a = 10 := by
        refine fun e3 => e ?_
        have := congrArg UInt8.toNat e3
        simpa [Nat.mod_eq_of_lt ha] using this
      simp [this, e]
theorem count_any {w : World} {v : Value} {l : List Nat} (h : RowB w v l) (b2 o2 d : Nat) (hc2 : w.cell? ⟨b2, o2, none⟩ = some (.int .u8 10)) :
    Calls Tryz.prog 30 #[v, .slice (some ⟨b2, o2, none⟩) 1 d] w fun e w' => e = .returned (.int .i64 (l.count 10 : Nat)) ∧ w' = w := by
  obtain ⟨a, len, cap, rfl, hl, hc, hm, hb, hn, hcell⟩ := id h
  cases a with
  | none =>
    obtain ⟨rfl, rfl⟩ := hn rfl
    obtain rfl : l = [] := List.eq_nil_of_length_eq_zero hl
    exact Tryz.bytes_Count_one_nil b2 o2 d 10 w hc2
  | some x =>
    have := Any.bytes_Count_one_at Tryz.laysSlB13 x len cap b2 o2 d (l.map fun n : Nat => (n : Int)) 10 w (by simpa using hl) (fun i hi => by rw [hcell x rfl i (by omega)]; simp [List.getD, show i < l.length by omega]) hc2
    rw [countN l hb] at this
    exact this
end
end Go.Proofs.YtnncldnpkfjhbaaGreatDoor
