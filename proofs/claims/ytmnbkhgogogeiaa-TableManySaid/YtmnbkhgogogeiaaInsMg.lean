/-
  The pairs of a table in memory; slices.Insert behind the last one.
-/
import Derived.Test.YtmnbkhgogogeiaaMg10
import Derived.Test.YtmnbkhgogogeiaaMg19
namespace Go.Proofs.Ytmnbkhgogogeiaa
set_option linter.unusedVariables false
open Go.RowKit

theorem Try.info79 : (Try.prog.info? 79).map (fun i => (i.zero, i.size, i.bytes)) = some (some (.agg #[.slice none 0 0, .slice none 0 0]), 2, 48) := by kernel_rfl
structure Pr where
  kv : Value
  vv : Value
  key : List Nat
  val : List Nat
def Pr.cells (x : Pr) : List Value := [x.kv, x.vv]
def prC (L : List Pr) : List Value := L.flatMap Pr.cells
theorem prC_length (L : List Pr) : (prC L).length = L.length * 2 := by
  induction L with
  | nil => rfl
  | cons x r ih =>
    have : prC (x :: r) = x.cells ++ prC r := by simp [prC]
    rw [this, List.length_append, ih]
    simp [Pr.cells]
    omega
theorem prC_append (L M : List Pr) : prC (L ++ M) = prC L ++ prC M := by simp [prC]
theorem prC_get (L : List Pr) (i : Nat) (h : i < L.length) : (prC L)[i * 2]? = some L[i].kv ∧ (prC L)[i * 2 + 1]? = some L[i].vv := by
  induction L generalizing i with
  | nil => simp at h
  | cons x r ih =>
    have e : prC (x :: r) = [x.kv, x.vv] ++ prC r := by simp [prC, Pr.cells]
    cases i with
    | zero => rw [e]; exact ⟨rfl, rfl⟩
    | succ i =>
      have := ih i (by simpa using h)
      rw [e, show (i + 1) * 2 = i * 2 + 1 + 1 by omega]
      simpa using this
/-- the pairs of a table -/
structure PairR (w : World) (B : Nat) (pv : Value) (L : List Pr) : Prop where
  row : w.ownsRow B 79 2 pv L.length (prC L)
  own : ∀ x ∈ L, OwnB w B x.kv x.key ∧ OwnB w B x.vv x.val ∧ (∀ n ∈ x.key, n < 256) ∧ ∀ n ∈ x.val, n < 256
def Pr.of (x : Pr) : List Nat × List Nat := (x.key, x.val)
theorem PairR.pairV {w : World} {B : Nat} {pv : Value} {L : List Pr} (h : PairR w B pv L) : PairV w pv (L.map Pr.of) := by
  have hl : (L.map Pr.of).length = L.length := by simp
  rcases h.row.2 with ⟨e, h1⟩ | ⟨g, cap, cur, e, hb, hh, hc, hmx, hs, ht⟩
  · have h0 : L = [] := List.eq_nil_of_length_eq_zero h1
    subst h0
    exact ⟨none, 0, by rw [e]; rfl, Nat.le_refl _, Nat.zero_le _, .inl rfl⟩
  · refine ⟨_, cap, by rw [e, hl], by rw [hl]; exact hc, hmx, .inr ⟨g, rfl, fun i hi => ?_⟩⟩
    have hi2 : i < L.length := by omega
    obtain ⟨o1, o2, o3, o4⟩ := h.own _ (List.getElem_mem hi2)
    obtain ⟨a1, c1, e1⟩ := o1.shape
    obtain ⟨a2, c2, e2⟩ := o2.shape
    have r1 := o1.rowB o3
    have r2 := o2.rowB o4
    obtain ⟨g1, g2⟩ := prC_get L i hi2
    have hat : ∀ j v, j < L.length * 2 → (prC L)[j]? = some v → w.cell? ⟨g, j, none⟩ = some v := by
      intro j v hj hv
      rw [cell_of_row _ _ _ _ 79 (0, 0) hh]
      have : cur.toList[j]? = some v := by
        rw [← ht, List.getElem?_take_of_lt hj] at hv
        exact hv
      simpa using this
    rw [e1] at r1 g1
    rw [e2] at r2 g2
    exact ⟨a1, _, c1, a2, _, c2, hat _ _ (by omega) g1, hat _ _ (by omega) g2, by simpa [Pr.of] using r1, by simpa [Pr.of] using r2⟩
theorem PairR.mono {w : World} {B C : Nat} {pv : Value} {L : List Pr} (h : PairR w B pv L) (hc : C ≤ B) : PairR w C pv L :=
  ⟨rows_mono h.row hc, fun x hx => ⟨owns_mono (h.own x hx).1 hc, owns_mono (h.own x hx).2.1 hc, (h.own x hx).2.2⟩⟩
theorem ownsRow_lq {w w' : World} {B : Nat} {t : TypeId} {sz : Nat} {v : Value} {n : Nat} {xs : List Value} (h : w.ownsRow B t sz v n xs) (hq : LQ w w') (h1 : t ≠ 62) (h2 : t ≠ 143) (h3 : t ≠ 145) (h4 : t ≠ 91) (h5 : t ≠ 98) : w'.ownsRow B t sz v n xs := by
  refine ⟨h.1, ?_⟩
  rcases h.2 with h6 | ⟨g, cap, cur, rfl, hg, hh, r⟩
  · exact .inl h6
  · exact .inr ⟨g, cap, cur, rfl, hg, hq.keep g _ _ _ hh h1 h2 h3 h4 h5, r⟩
theorem PairR.lq {w w' : World} {B : Nat} {pv : Value} {L : List Pr} (h : PairR w B pv L) (hq : LQ w w') : PairR w' B pv L :=
  ⟨ownsRow_lq h.row hq (by decide) (by decide) (by decide) (by decide) (by decide), fun x hx => ⟨ownsRow_lq (h.own x hx).1 hq (by decide) (by decide) (by decide) (by decide) (by decide), ownsRow_lq (h.own x hx).2.1 hq (by decide) (by decide) (by decide) (by decide) (by decide), (h.own x hx).2.2⟩⟩
theorem Below.lq {w w' : World} (h : Below w.heap.size w w') : LQ w w' := (Below.qb h).lq (Nat.le_refl _)

set_option maxRecDepth 100000 in
set_option maxHeartbeats 4000000 in
theorem ins_end {w : World} {B : Nat} {pv : Value} {L : List Pr} (h : w.ownsRow B 79 2 pv L.length (prC L)) (hB : B ≤ w.heap.size) (hL : L.length ≤ 100000) {g : Nat} {kv vv : Value} (hg : w.heap[g]? = some (.cells #[kv, vv] 79 (0, 0))) (h1 : kv.oneCell' = true) (h2 : vv.oneCell' = true) :
    Calls Try.prog 59 #[pv, .int .i64 (L.length : Nat), .slice (some ⟨g, 0, none⟩) 1 1] w fun e w' => ∃ a c, e = .returned (.slice a (L.length + 1) c) ∧ w'.ownsRow B 79 2 (.slice a (L.length + 1) c) (L.length + 1) (prC L ++ [kv, vv]) ∧ w.grownBy w' pv.ownBlock := by
  obtain ⟨i0, hi, hz0, hz1, hz2⟩ := info_parts Try.info79
  have HI := Lib.hid hi
  obtain ⟨pa, pc, rfl⟩ := own_shape h
  have hcap : L.length ≤ pc := by
    rcases h.2 with ⟨e, h1⟩ | ⟨g, cap, cur, e, hb, hh, hc, hmx, hs, ht⟩
    · omega
    · obtain ⟨-, -, rfl⟩ := Value.slice.inj e
      exact hc
  have HR := Lib.hid h
  have HG := Lib.hid hg
  have hnl : (L.length : Int) ≤ (pc : Int) := by omega
  clear h hg hi
  obtain ⟨xs, hxs⟩ : ∃ xs, prC L = xs := ⟨_, rfl⟩
  rw [hxs] at HR
  rw [hxs]
  clear hxs
  generalize L.length = n at *
  go_enter Try.func59, Try.ntmps59
  go_upto_region 2 with (fail)
  generalize (if pc = n then pa else Option.map (fun x => x.add (n * 2)) pa) = pz
  generalize pc - n = zc
  go_wp2_with (at_builtin; go_loud (refine wpList_append_own _ rfl (.tmp 23) (.tmp 24) 66 rfl B 79 i0 _ 2 48 Try.underlying66 HI.out hz0 hz1 hz2 rfl (by decide) (.slice pa n pc) n xs rfl HR.out ⟨g, 0, none⟩ 1 1 [kv, vv] rfl rfl (World.news_of_block (cs := #[kv, vv]) (t := 79) (fr := (0, 0)) HG.out) (by intro u hu; simp at hu; rcases hu with rfl | rfl <;> assumption) (by unfold maxLen; omega) (by omega) hB ?_))
  intro o w6 ho hgr _
  obtain ⟨oa, oc, rfl⟩ := own_shape ho
  have HO := Lib.hid ho
  have HGR := Lib.hid hgr
  clear ho hgr
  go_wp2_with fail
  go_ret
  exact ⟨oa, oc, rfl, HO.out, HGR.out⟩
end Go.Proofs.Ytmnbkhgogogeiaa
