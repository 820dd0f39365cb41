/-
  What Touch, Clean and Drop make of the lists.
-/
import Derived.Test.YthmnbjdmbajhkaaRel
namespace Go.Proofs.Ythmnbjdmbajhkaa
set_option linter.unusedVariables false
open Go.RowKit

def used (t : Th) (u : Int) : Th := ⟨t.blk, t.v, t.u, t.size, u⟩
theorem perm_set {α : Type} (l : List α) (i : Nat) (hi : i < l.length) (a : α) : (l.set i a).Perm (a :: l.eraseIdx i) := by
  induction l generalizing i with
  | nil => simp at hi
  | cons b l ih =>
    cases i with
    | zero => exact .refl _
    | succ i => exact ((ih i (by simpa using hi)).cons b).trans (List.Perm.swap _ _ _)
theorem set_same {α : Type} (l : List α) (i : Nat) (hi : i < l.length) : l.set i l[i] = l := by
  apply List.ext_getElem
  · simp
  · intro k h1 h2
    rw [List.getElem_set]
    split
    · rename_i h; subst h; rfl
    · rfl
theorem map_set' {α β : Type} (f : α → β) (l : List α) (i : Nat) (a : α) : (l.set i a).map f = (l.map f).set i (f a) := by
  induction l generalizing i with
  | nil => rfl
  | cons b l ih => cases i <;> simp [ih]
theorem goL_cons (x : Th × Bool) (H : List (Th × Bool)) : goL (x :: H) = if x.2 then x.1 :: goL H else goL H := by
  unfold goL
  rw [List.filter_cons]
  split <;> rfl
theorem goL_perm {H K : List (Th × Bool)} (h : H.Perm K) : (goL H).Perm (goL K) := (h.filter _).map _
/-- where a thing that may go stands in the order -/
theorem Rel.place {E : List (Th × Nat)} {L : List Th} {H : List (Th × Bool)} (h : Rel E L H) (i : Nat) (hi : i < H.length) (hq : H[i].2 = true) : ∃ j, ∃ hj : j < L.length, L[j] = H[i].1 := by
  obtain ⟨j, hj, e⟩ := List.mem_iff_getElem.1 ((h.ok i hi).1 hq)
  exact ⟨j, hj, e⟩
/-- the rest of the order is the rest of the list -/
theorem Rel.rest {E : List (Th × Nat)} {L : List Th} {H : List (Th × Bool)} (h : Rel E L H) {i j : Nat} (hi : i < H.length) (hj : j < L.length) (hq : H[i].2 = true) (e : L[j] = H[i].1) : (L.eraseIdx j).Perm (goL (H.eraseIdx i)) := by
  have h1 := (perm_eraseIdx L j hj).symm.trans (h.pl.trans (goL_perm (perm_eraseIdx H i hi)))
  rw [goL_cons, if_pos hq, e] at h1
  exact List.Perm.cons_inv h1
theorem Good.set {E : List (Th × Nat)} {L M : List Th} (h : Good E L) {i : Nat} (hi : i < E.length) (u : Int) (hM : ∀ x ∈ M, x = used E[i].1 u ∨ (x ∈ L ∧ x ≠ E[i].1)) (hn : M.Nodup) : Good (E.set i (used E[i].1 u, E[i].2)) M := by
  refine ⟨?_, ?_, hn, ?_, by simpa using h.cnt⟩
  · rw [List.pairwise_iff_getElem]
    intro a b ha hb hab
    simp only [List.length_set] at ha hb
    have := List.pairwise_iff_getElem.1 h.ids a b ha hb hab
    rw [List.getElem_set, List.getElem_set]
    unfold Go.Proofs.Ythmnbjdmbajhkaa.apart at this ⊢
    split
    · rename_i e; subst e
      rw [if_neg (by omega)]
      exact this
    · split
      · rename_i e; subst e
        exact this
      · exact this
  · intro x hx
    rcases hM x hx with rfl | ⟨hx, hne⟩
    · exact ⟨E[i].2, List.mem_iff_getElem.2 ⟨i, by simpa using hi, by simp⟩⟩
    · obtain ⟨n, hn⟩ := h.sub x hx
      obtain ⟨k, hk, e⟩ := List.mem_iff_getElem.1 hn
      refine ⟨n, List.mem_iff_getElem.2 ⟨k, by simpa using hk, ?_⟩⟩
      rw [List.getElem_set, if_neg, e]
      rintro rfl
      rw [e] at hne
      exact hne rfl
  · intro x hx
    obtain ⟨k, hk, rfl⟩ := List.mem_iff_getElem.1 hx
    simp only [List.length_set] at hk
    rw [List.getElem_set]
    split
    · have h2 := h.rng E[i] (List.getElem_mem hi)
      exact h2
    · exact h.rng _ (List.getElem_mem hk)
theorem Rel.touch {E : List (Th × Nat)} {L : List Th} {H : List (Th × Bool)} (h : Rel E L H) {i j : Nat} (hi : i < H.length) (hE : i < E.length) (hj : j < L.length) (hq : H[i].2 = true) (e : L[j] = H[i].1) (u : Int) :
    Rel (E.set i (used E[i].1 u, E[i].2)) (fixL (L.set j (used H[i].1 u)) j) (H.set i (used H[i].1 u, true)) := by
  have hp := fixL_perm (L.set j (used H[i].1 u)) j (by simpa using hj)
  have hl : (fixL (L.set j (used H[i].1 u)) j).length = L.length := by rw [hp.length_eq]; simp
  have hei := h.at i hi hE
  have hmem : ∀ x ∈ L.set j (used H[i].1 u), x = used E[i].1 u ∨ (x ∈ L ∧ x ≠ E[i].1) := fun x hx => by
    obtain ⟨k, hk, rfl⟩ := List.mem_iff_getElem.1 hx
    simp only [List.length_set] at hk
    rw [List.getElem_set]
    split
    · left; rw [hei]
    · rename_i hne
      refine .inr ⟨List.getElem_mem hk, fun e2 => hne ?_⟩
      rw [hei] at e2
      exact ((List.getElem_inj h.good.nd).1 (e2.trans e.symm)).symm
  have hnd : (L.set j (used H[i].1 u)).Nodup := by
    rw [(perm_set L j hj _).nodup_iff]
    have h1 := (perm_eraseIdx L j hj).nodup_iff.1 h.good.nd
    obtain ⟨h2, h3⟩ := List.nodup_cons.1 h1
    refine List.nodup_cons.2 ⟨fun hm => ?_, h3⟩
    obtain ⟨n, hn⟩ := h.good.sub _ ((List.eraseIdx_sublist _ _).mem hm)
    have hx2 : (H[i].1, E[i].2) ∈ E := by rw [← hei]; exact List.getElem_mem hE
    have := h.good.one hn hx2 rfl rfl
    rw [this, ← e] at hm
    exact h2 hm
  refine ⟨h.good.set hE u (fun x hx => hmem x (hp.mem_iff.1 hx)) (hp.nodup_iff.2 hnd), ?_, ?_, ?_⟩
  · rw [hl]
    exact heap_fix _ hj h.heap
  · rw [map_set', map_set', h.th, hei]
  · refine hp.trans ((perm_set L j hj _).trans (List.Perm.trans ?_ (goL_perm (perm_set H i hi _)).symm))
    rw [goL_cons]
    exact (h.rest hi hj hq e).cons _
theorem Rel.touch_idle {E : List (Th × Nat)} {L : List Th} {H : List (Th × Bool)} (h : Rel E L H) {i : Nat} (hi : i < H.length) (hE : i < E.length) (hq : H[i].2 = false) (u : Int) :
    Rel (E.set i (used E[i].1 u, E[i].2)) L (H.set i (used H[i].1 u, false)) := by
  have hei := h.at i hi hE
  refine ⟨h.good.set hE u (fun x hx => .inr ⟨hx, fun e => ?_⟩) h.good.nd, h.heap, by rw [map_set', map_set', h.th, hei], ?_⟩
  · rw [e, hei, ← h.ok i hi, hq] at hx
    cases hx
  · have h1 := h.pl.trans (goL_perm (perm_eraseIdx H i hi))
    have h2 := goL_perm (perm_set H i hi (used H[i].1 u, false))
    rw [goL_cons, if_neg (by simp [hq])] at h1
    rw [goL_cons, if_neg (by simp)] at h2
    exact h1.trans h2.symm
theorem Rel.clean {E : List (Th × Nat)} {L : List Th} {H : List (Th × Bool)} (h : Rel E L H) {i : Nat} (hi : i < H.length) (hq : H[i].2 = false) :
    Rel E (upL (L ++ [H[i].1]) L.length) (H.set i (H[i].1, true)) := by
  have hp := upL_perm (L ++ [H[i].1]) L.length (by simp)
  have hn : H[i].1 ∉ L := fun hm => by
    rw [← h.ok i hi, hq] at hm
    cases hm
  refine ⟨⟨h.good.ids, fun x hx => ?_, ?_, h.good.rng, h.good.cnt⟩, ?_, ?_, ?_⟩
  · rcases List.mem_append.1 (hp.mem_iff.1 hx) with hx | hx
    · exact h.good.sub x hx
    · obtain rfl := List.mem_singleton.1 hx
      exact h.mem (List.getElem_mem hi)
  · rw [hp.nodup_iff]
    exact List.nodup_append.2 ⟨h.good.nd, by simp, fun a ha y hy e => hn (by rw [← List.mem_singleton.1 hy, ← e]; exact ha)⟩
  · rw [hp.length_eq, List.length_append]
    exact heap_push _ h.heap
  · rw [map_set', ← h.th]
    have := set_same (H.map (·.1)) i (by simpa using hi)
    simpa using this
  · refine hp.trans (List.Perm.trans List.perm_append_comm (List.Perm.trans ?_ (goL_perm (perm_set H i hi _)).symm))
    rw [goL_cons, if_pos rfl]
    have h1 := h.pl.trans (goL_perm (perm_eraseIdx H i hi))
    rw [goL_cons, if_neg (by simp [hq])] at h1
    exact h1.cons _
theorem Good.erase {E : List (Th × Nat)} {L M : List Th} (h : Good E L) {i : Nat} (hi : i < E.length) (hM : ∀ x ∈ M, x ∈ L ∧ x ≠ E[i].1) (hn : M.Nodup) : Good (E.eraseIdx i) M := by
  refine ⟨h.ids.sublist (List.eraseIdx_sublist _ _), fun y hy => ?_, hn, fun y hy => h.rng y ((List.eraseIdx_sublist _ _).mem hy), ?_⟩
  · obtain ⟨hyL, hne⟩ := hM y hy
    obtain ⟨n, hn⟩ := h.sub y hyL
    refine ⟨n, ?_⟩
    obtain ⟨k, hk, e⟩ := List.mem_iff_getElem.1 hn
    refine List.mem_eraseIdx_iff_getElem.2 ⟨k, hk, ?_, e⟩
    rintro rfl
    rw [e] at hne
    exact hne rfl
  · have := h.cnt
    rw [List.length_eraseIdx]
    split <;> omega
theorem Rel.drop {E : List (Th × Nat)} {L : List Th} {H : List (Th × Bool)} (h : Rel E L H) {i j : Nat} (hi : i < H.length) (hE : i < E.length) (hj : j < L.length) (hq : H[i].2 = true) (e : L[j] = H[i].1) :
    Rel (E.eraseIdx i) (removeL L j) (H.eraseIdx i) := by
  obtain ⟨h1, h2, h3⟩ := removeL_parts L j hj
  have hp : (removeL L j).Perm (L.eraseIdx j) := by
    rw [h1] at h2
    exact List.Perm.cons_inv ((List.perm_append_comm (l₁ := [L[j]])).trans (h2.trans (perm_eraseIdx L j hj)))
  have hei := h.at i hi hE
  have hnd := (perm_eraseIdx L j hj).nodup_iff.1 h.good.nd
  refine ⟨h.good.erase hE (fun x hx => ⟨(List.eraseIdx_sublist _ _).mem (hp.mem_iff.1 hx), fun e2 => ?_⟩) (hp.nodup_iff.2 (List.nodup_cons.1 hnd).2), ?_, by rw [map_eraseIdx, map_eraseIdx, h.th], hp.trans (h.rest hi hj hq e)⟩
  · rw [e2, hei, ← e] at hx
    exact (List.nodup_cons.1 hnd).1 (hp.mem_iff.1 hx)
  · rw [h3]
    exact heap_remove hj h.heap
theorem Rel.drop_idle {E : List (Th × Nat)} {L : List Th} {H : List (Th × Bool)} (h : Rel E L H) {i : Nat} (hi : i < H.length) (hE : i < E.length) (hq : H[i].2 = false) : Rel (E.eraseIdx i) L (H.eraseIdx i) := by
  have hei := h.at i hi hE
  refine ⟨h.good.erase hE (fun x hx => ⟨hx, fun e => ?_⟩) h.good.nd, h.heap, by rw [map_eraseIdx, map_eraseIdx, h.th], ?_⟩
  · rw [e, hei, ← h.ok i hi, hq] at hx
    cases hx
  · have h1 := h.pl.trans (goL_perm (perm_eraseIdx H i hi))
    rwa [goL_cons, if_neg (by simp [hq])] at h1
theorem sumE_used {E : List (Th × Nat)} {i : Nat} (hi : i < E.length) (u : Int) : sumE (E.set i (used E[i].1 u, E[i].2)) = sumE E := by
  unfold sumE
  rw [map_set']
  have : (used E[i].1 u, E[i].2).1.size = (E.map fun x => x.1.size)[i]'(by simpa using hi) := by simp [used]
  rw [this, set_same]
theorem ent_used {E : List (Th × Nat)} {i : Nat} (hi : i < E.length) (u : Int) : (E.set i (used E[i].1 u, E[i].2)).map ent = E.map ent := by
  rw [map_set']
  have : ent (used E[i].1 u, E[i].2) = (E.map ent)[i]'(by simpa using hi) := by simp [used, ent, thP]
  rw [this, set_same]
end Go.Proofs.Ythmnbjdmbajhkaa
