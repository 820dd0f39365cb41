/-
  The things of a shelf, those that may go, and a law's own list of both, as facts of lists.
-/
import Derived.Test.YthmnbjdmbajhkaaHeapP
import Derived.Test.YthmnbjdmbajhkaaKeepP
namespace Go.Proofs.Ythmnbjdmbajhkaa
set_option linter.unusedVariables false
open Go.RowKit

def goL (H : List (Th × Bool)) : List Th := (H.filter (·.2)).map (·.1)
structure Rel (E : List (Th × Nat)) (L : List Th) (H : List (Th × Bool)) : Prop where
  good : Good E L
  heap : Heap L L.length
  th : H.map (·.1) = E.map (·.1)
  pl : L.Perm (goL H)
theorem rel_nil : Rel [] [] [] := ⟨good_nil, heap_nil, rfl, List.Perm.nil⟩
theorem Rel.len {E : List (Th × Nat)} {L : List Th} {H : List (Th × Bool)} (h : Rel E L H) : H.length = E.length := by
  have := congrArg List.length h.th
  simpa using this
theorem Rel.mem {E : List (Th × Nat)} {L : List Th} {H : List (Th × Bool)} (h : Rel E L H) {x : Th × Bool} (hx : x ∈ H) : ∃ n, (x.1, n) ∈ E := by
  have h1 : x.1 ∈ H.map (·.1) := List.mem_map.2 ⟨x, hx, rfl⟩
  rw [h.th] at h1
  obtain ⟨y, hy, e⟩ := List.mem_map.1 h1
  exact ⟨y.2, by rw [← e]; exact hy⟩
theorem Rel.at {E : List (Th × Nat)} {L : List Th} {H : List (Th × Bool)} (h : Rel E L H) (i : Nat) (hi : i < H.length) (hj : i < E.length) : E[i].1 = H[i].1 := by
  have h1 : (H.map (·.1))[i]'(by simpa using hi) = (E.map (·.1))[i]'(by simpa using hj) := by simp only [h.th]
  simpa using h1.symm
theorem goL_app (H K : List (Th × Bool)) : goL (H ++ K) = goL H ++ goL K := by simp [goL]
theorem mem_goL {H : List (Th × Bool)} {x : Th} : x ∈ goL H ↔ (x, true) ∈ H := by
  simp only [goL, List.mem_map, List.mem_filter]
  constructor
  · rintro ⟨⟨a, q⟩, ⟨h, hq⟩, rfl⟩
    simp only at hq
    subst hq
    exact h
  · intro h
    exact ⟨(x, true), ⟨h, rfl⟩, rfl⟩
theorem Rel.lenL {E : List (Th × Nat)} {L : List Th} {H : List (Th × Bool)} (h : Rel E L H) : L.length ≤ E.length := by
  rw [h.pl.length_eq, ← h.len]
  simp only [goL, List.length_map]
  exact List.length_filter_le _ _
/-- an ID stands at one place alone -/
theorem ids_inj {E : List (Th × Nat)} (h : E.Pairwise apart) {i j : Nat} (hi : i < E.length) (hj : j < E.length) (hv : E[i].1.v = E[j].1.v) (hu : E[i].1.u = E[j].1.u) : i = j := by
  rcases Nat.lt_trichotomy i j with hl | hl | hl
  · exact absurd ⟨hv, hu⟩ (List.pairwise_iff_getElem.1 h i j hi hj hl)
  · exact hl
  · exact absurd ⟨hv.symm, hu.symm⟩ (List.pairwise_iff_getElem.1 h j i hj hi hl)
theorem at_idx {E : List (Th × Nat)} (h : E.Pairwise apart) (i : Nat) (hi : i < E.length) : at? E E[i].1.v E[i].1.u = some (i, E[i].1) := by
  obtain ⟨j, hj⟩ := at_mem h (x := E[i].1) (n := E[i].2) (List.getElem_mem hi)
  obtain ⟨hjl, hje, -⟩ := at_some hj
  have := ids_inj h hi hjl (by rw [hje]) (by rw [hje])
  subst this
  exact hj
/-- which may go, told by the law's own list -/
theorem Rel.ok {E : List (Th × Nat)} {L : List Th} {H : List (Th × Bool)} (h : Rel E L H) (i : Nat) (hi : i < H.length) : H[i].2 = true ↔ H[i].1 ∈ L := by
  rw [h.pl.mem_iff, mem_goL]
  constructor
  · intro hq
    have : (H[i].1, true) = H[i] := by rw [← hq]
    rw [this]
    exact List.getElem_mem hi
  · intro hm
    obtain ⟨j, hj, e⟩ := List.mem_iff_getElem.1 hm
    have hl := h.len
    have hij := ids_inj h.good.ids (i := i) (j := j) (by omega) (by omega) (by rw [h.at i hi, h.at j hj, e]) (by rw [h.at i hi, h.at j hj, e])
    subst hij
    rw [e]
theorem Rel.put {E : List (Th × Nat)} {L : List Th} {H : List (Th × Bool)} (h : Rel E L H) {t : Th} {c : Nat} (hq : at? E t.v t.u = none) (h0 : 0 ≤ t.size) (h1 : t.size ≤ 1048576) (hc : E.length < 65536) (clean : Bool) :
    Rel (E ++ [(t, c)]) (if clean then upL (L ++ [t]) L.length else L) (H ++ [(t, clean)]) := by
  refine ⟨h.good.put hq h0 h1 hc clean, ?_, by simp [h.th], ?_⟩
  · cases clean
    · exact h.heap
    · simp only [if_true]
      rw [(upL_perm (L ++ [t]) L.length (by simp)).length_eq, List.length_append]
      exact heap_push t h.heap
  · rw [goL_app]
    cases clean
    · simpa [goL] using h.pl
    · exact (upL_perm (L ++ [t]) L.length (by simp)).trans (h.pl.append (.refl [t]))
theorem perm_eraseIdx {α : Type} (l : List α) (i : Nat) (hi : i < l.length) : l.Perm (l[i] :: l.eraseIdx i) := by
  induction l generalizing i with
  | nil => simp at hi
  | cons a l ih =>
    cases i with
    | zero => exact .refl _
    | succ i => exact ((ih i (by simpa using hi)).cons a).trans (List.Perm.swap _ _ _)
theorem map_eraseIdx {α β : Type} (f : α → β) (l : List α) (i : Nat) : (l.eraseIdx i).map f = (l.map f).eraseIdx i := by
  induction l generalizing i with
  | nil => rfl
  | cons a l ih => cases i <;> simp [ih]
/-- one goes: the first of the order -/
theorem Rel.pop {E : List (Th × Nat)} {x : Th} {L : List Th} {H : List (Th × Bool)} (h : Rel E (x :: L) H) {i : Nat} (hi : at? E x.v x.u = some (i, x)) : Rel (E.eraseIdx i) (popL (x :: L)) (H.eraseIdx i) := by
  obtain ⟨hil, hix, -⟩ := at_some hi
  have hl := h.len
  have hiH : i < H.length := by omega
  have hHi := (h.at i hiH hil).symm.trans hix
  have hq : H[i].2 = true := (h.ok i hiH).2 (by rw [hHi]; simp)
  obtain ⟨-, hpp, hpl⟩ := popL_parts x L
  refine ⟨h.good.pop hi, by rw [hpl]; exact heap_pop h.heap, by rw [map_eraseIdx, map_eraseIdx, h.th], ?_⟩
  refine hpp.trans (List.Perm.cons_inv (a := x) (h.pl.trans ?_))
  have h2 := ((perm_eraseIdx H i hiH).filter (·.2)).map (·.1)
  rw [List.filter_cons_of_pos hq, List.map_cons, hHi] at h2
  exact h2
/-- what is left has a list of its own -/
theorem Rel.evict (b : Int) : ∀ (n : Nat) (E : List (Th × Nat)) (L : List Th) (H : List (Th × Bool)), L.length = n → Rel E L H → ∃ H', Rel (evS b E L).1 (evS b E L).2.1 H' ∧ ∀ x ∈ H', x ∈ H := by
  intro n
  induction n with
  | zero =>
    intro E L H hL h
    obtain rfl := List.length_eq_zero_iff.1 hL
    rw [evS_nil]
    exact ⟨H, h, fun _ h => h⟩
  | succ n ih =>
    intro E L H hL h
    by_cases hgt : sumE E > b
    · cases L with
      | nil => simp at hL
      | cons x L2 =>
        obtain ⟨n0, hx0⟩ := h.good.sub x (by simp)
        obtain ⟨i, hi⟩ := at_mem h.good.ids hx0
        rw [evS_go hgt hi]
        obtain ⟨H', h1, h2⟩ := ih _ _ _ (by rw [(popL_parts x L2).2.2]; simpa using hL) (h.pop hi)
        exact ⟨H', h1, fun x hx => (List.eraseIdx_sublist _ _).mem (h2 x hx)⟩
    · rw [evS_stop hgt]
      exact ⟨H, h, fun _ h => h⟩

/-- all of a thing but where it lies -/
def keyT (x : Th) : Int × Int × Int × Int := (x.v, x.u, x.size, x.used)
def keyH (x : Th × Bool) : (Int × Int × Int × Int) × Bool := (keyT x.1, x.2)
theorem sum_perm {l m : List Int} (h : l.Perm m) : l.sum = m.sum := by
  induction h with
  | nil => rfl
  | cons x _ ih => simp [ih]
  | swap x y l => simp; omega
  | trans _ _ h1 h2 => exact h1.trans h2
theorem sumE_key {E F : List (Th × Nat)} (h : (E.map fun x => keyT x.1).Perm (F.map fun x => keyT x.1)) : sumE E = sumE F := by
  have := sum_perm (h.map (fun k => k.2.2.1))
  simpa [sumE, keyT, List.map_map, Function.comp_def] using this
/-- two shelves of the same things, put in whatever order: the same ones go, in the same order -/
theorem evS_alike (b : Int) : ∀ (n : Nat) (E F : List (Th × Nat)) (L M : List Th), L.length = n → Good E L → Good F M → Heap L L.length → Heap M M.length →
    (E.map fun x => keyT x.1).Perm (F.map fun x => keyT x.1) → (L.map keyT).Perm (M.map keyT) →
    (evS b E L).2.2.map keyT = (evS b F M).2.2.map keyT ∧ sumE (evS b E L).1 = sumE (evS b F M).1 ∧ (evS b E L).1.length = (evS b F M).1.length := by
  intro n
  induction n with
  | zero =>
    intro E F L M hL g1 g2 h1 h2 hE hLM
    obtain rfl := List.length_eq_zero_iff.1 hL
    have : M = [] := by
      have := hLM.length_eq
      simp at this
      exact List.length_eq_zero_iff.1 this.symm
    subst this
    rw [evS_nil, evS_nil]
    exact ⟨rfl, sumE_key hE, by simpa using hE.length_eq⟩
  | succ n ih =>
    intro E F L M hL g1 g2 h1 h2 hE hLM
    have hs := sumE_key hE
    by_cases hgt : sumE E > b
    · cases L with
      | nil => simp at hL
      | cons x L2 =>
        cases M with
        | nil => have := hLM.length_eq; simp at this
        | cons y M2 =>
          obtain ⟨n0, hx0⟩ := g1.sub x (by simp)
          obtain ⟨i, hi⟩ := at_mem g1.ids hx0
          obtain ⟨m0, hy0⟩ := g2.sub y (by simp)
          obtain ⟨j, hj⟩ := at_mem g2.ids hy0
          have hxy : keyT x = keyT y := by
            have hx1 : keyT x ∈ (y :: M2).map keyT := hLM.mem_iff.1 (by simp)
            obtain ⟨x', hx', ex⟩ := List.mem_map.1 hx1
            have hy1 : keyT y ∈ (x :: L2).map keyT := hLM.mem_iff.2 (by simp)
            obtain ⟨y', hy', ey⟩ := List.mem_map.1 hy1
            have a1 := h2.head x' hx'
            have a2 := h1.head y' hy'
            rw [ltB_no] at a1 a2
            simp only [keyT, Prod.mk.injEq] at ex ey
            obtain ⟨n1, hn1⟩ := g2.sub x' hx'
            have := g2.one hn1 hy0 (by omega) (by omega)
            subst this
            simp only [keyT, Prod.mk.injEq]
            omega
          have hxy' := hxy
          simp only [keyT, Prod.mk.injEq] at hxy'
          obtain ⟨hil, hix, -⟩ := at_some hi
          obtain ⟨hjl, hjy, -⟩ := at_some hj
          rw [evS_go hgt hi, evS_go (by omega) hj]
          obtain ⟨-, p1, q1⟩ := popL_parts x L2
          obtain ⟨-, p2, q2⟩ := popL_parts y M2
          have hE' : ((E.eraseIdx i).map fun x => keyT x.1).Perm ((F.eraseIdx j).map fun x => keyT x.1) := by
            have e1 := (perm_eraseIdx E i hil).map (fun x => keyT x.1)
            have e2 := (perm_eraseIdx F j hjl).map (fun x => keyT x.1)
            simp only [List.map_cons, hix, hjy] at e1 e2
            rw [hxy] at e1
            exact List.Perm.cons_inv (e1.symm.trans (hE.trans e2))
          have hL' : ((popL (x :: L2)).map keyT).Perm ((popL (y :: M2)).map keyT) := by
            refine (p1.map _).trans (List.Perm.trans ?_ (p2.map _).symm)
            simp only [List.map_cons, hxy] at hLM
            exact List.Perm.cons_inv hLM
          obtain ⟨r1, r2, r3⟩ := ih _ _ _ _ (by rw [q1]; simpa using hL) (g1.pop hi) (g2.pop hj) (by rw [q1]; exact heap_pop h1) (by rw [q2]; exact heap_pop h2) hE' hL'
          exact ⟨by simp [hxy, r1], r2, r3⟩
    · rw [evS_stop hgt, evS_stop (by omega)]
      exact ⟨rfl, hs, by simpa using hE.length_eq⟩
/-- told by the laws' own lists -/
theorem Rel.alike {b : Int} {E F : List (Th × Nat)} {L M : List Th} {H K : List (Th × Bool)} (h : Rel E L H) (k : Rel F M K) (hp : (H.map keyH).Perm (K.map keyH)) :
    (evS b E L).2.2.map keyT = (evS b F M).2.2.map keyT ∧ sumE (evS b E L).1 = sumE (evS b F M).1 ∧ (evS b E L).1.length = (evS b F M).1.length := by
  have e1 : ∀ {E : List (Th × Nat)} {L : List Th} {H : List (Th × Bool)}, Rel E L H → (E.map fun x => keyT x.1) = (H.map keyH).map (·.1) := fun {E L H} h => by
    have := congrArg (List.map keyT) h.th
    simpa [keyH, List.map_map, Function.comp_def] using this.symm
  have e2 : ∀ {H : List (Th × Bool)}, (goL H).map keyT = ((H.map keyH).filter (·.2)).map (·.1) := fun {H} => by
    rw [List.filter_map]
    simp [goL, keyH, List.map_map, Function.comp_def]
  refine evS_alike b L.length E F L M rfl h.good k.good h.heap k.heap ?_ ?_
  · rw [e1 h, e1 k]
    exact hp.map _
  · refine (h.pl.map keyT).trans (List.Perm.trans ?_ (k.pl.map keyT).symm)
    rw [e2, e2]
    exact (hp.filter _).map _
end Go.Proofs.Ythmnbjdmbajhkaa
