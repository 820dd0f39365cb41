/-
  heap.Remove, whatever the order holds.
-/
import Derived.Test.YthmnbjdmbajhkaaHPop
namespace Go.Proofs.Ythmnbjdmbajhkaa
set_option linter.unusedVariables false
open Go.RowKit
attribute [local go_sem] Oper.semAt_some

theorem upL_out (L : List Th) (j k : Nat) (hk : j < k) : (upL L j)[k]? = L[k]? := by
  induction L, j using upL.induct with
  | case1 L j h ih =>
    rw [upL_go h, ih (by omega), swapL_out k (by omega) (by omega)]
  | case2 L j h =>
    rw [upL_stop h]

/-- what heap.Remove makes of it, the one it takes at the end -/
def rmL (L : List Th) (i : Nat) : List Th :=
  if L.length - 1 = i then L else
  if i < (downL (swapL L i (L.length - 1)) i (L.length - 1)).2 then (downL (swapL L i (L.length - 1)) i (L.length - 1)).1 else upL (downL (swapL L i (L.length - 1)) i (L.length - 1)).1 i
def removeL (L : List Th) (i : Nat) : List Th := (rmL L i).take (L.length - 1)
theorem removeL_parts (L : List Th) (i : Nat) (hi : i < L.length) : rmL L i = removeL L i ++ [L[i]] ∧ (rmL L i).Perm L ∧ (removeL L i).length = L.length - 1 := by
  have key : (rmL L i).Perm L ∧ (rmL L i)[L.length - 1]? = some L[i] := by
    unfold rmL
    split
    · rename_i h
      subst h
      exact ⟨.refl _, List.getElem?_eq_getElem hi⟩
    · rename_i hne
      have hn : L.length - 1 < L.length := by omega
      have h := downL_keeps (swapL L i (L.length - 1)) i (L.length - 1) (by simp)
      have hp := h.1.trans (swapL_perm hi hn)
      have hx : (swapL L i (L.length - 1))[L.length - 1]? = some L[i] := by
        rw [List.getElem?_eq_getElem (by simpa using hn), swapL_get hi hn _ hn]
        simp
      split
      · exact ⟨hp, by rw [h.2.1 _ (Nat.le_refl _), hx]⟩
      · exact ⟨(upL_perm _ _ (by rw [hp.length_eq]; exact hi)).trans hp, by rw [upL_out _ _ _ (by omega), h.2.1 _ (Nat.le_refl _), hx]⟩
  have hlen := key.1.length_eq
  refine ⟨?_, key.1, by unfold removeL; rw [List.length_take, hlen]; omega⟩
  unfold removeL
  obtain ⟨h3, h4⟩ := List.getElem?_eq_some_iff.1 key.2
  have h1 := List.take_append_drop (L.length - 1) (rmL L i)
  rw [List.drop_eq_getElem_cons h3, h4, List.drop_eq_nil_of_le (by omega)] at h1
  exact h1.symm

set_option maxRecDepth 100000 in
set_option maxHeartbeats 4000000 in
theorem hrem_gen (p ty n : Nat) (cs : Array Value) (og cap i : Nat) (L : List Th) (w : World) (hp : At w p (.cells cs ty (0, 0))) (hc : cs[3]? = some (.slice (some ⟨og, 0, none⟩) L.length cap)) (hO : Ord w og cap L) (hi : i < L.length) (hn : L.length = n + 1)
    (hpo : ¬ ordOwn og L p) (hL : L.length ≤ 999999) :
    Calls Try.prog 24 #[.iface 62 (.pointer (some ⟨p, 3, none⟩)), .int .i64 i] w fun e w' => e = .returned (.iface 57 (.pointer (some ⟨L[i].blk, 0, none⟩))) ∧
      At w' p (.cells (cs.setIfInBounds 3 (.slice (some ⟨og, 0, none⟩) n cap)) ty (0, 0)) ∧ Ord w' og cap (removeL L i) ∧ At w' L[i].blk (.cells (thC L[i] (-1)) 60 (0, 0)) ∧ Beside (fun k => k = p ∨ ordOwn og L k) w w' := by
  have hcap : L.length ≤ cap := by
    obtain ⟨_, _, _, h, _⟩ := hO.row
    exact h
  have cc := hp.cell 3 _ hc
  have hl := meth_len ⟨p, 3, none⟩ w _ (load54 cc)
  have hs := meth_swap ⟨p, 3, none⟩ w _ (load54 cc)
  have hsw := swap_all og cap i n L w hO hi (by omega) (by omega)
  have hin := inv_pop
  have HP := Lib.hid hp
  have HC := Lib.hid hc
  have HPO := Lib.hid hpo
  have HO := Lib.hid hO
  have HS := Lib.hid hsw
  have HPM := Lib.hid (swapL_perm (L := L) (i := i) (j := n) hi (by omega))
  have HRL := Lib.hid (removeL_parts L i hi)
  have hn1 : L.length - 1 = n := by omega
  have HRM : Hid (rmL L i = if n = i then L else if i < (downL (swapL L i n) i n).2 then (downL (swapL L i n) i n).1 else upL (downL (swapL L i n) i n).1 i) := Lib.hid (by unfold rmL; rw [hn1])
  have HDK := Lib.hid (downL_keeps (swapL L i n) i n (by simp; omega))
  have HFIN : Hid (∀ W, Beside (ordOwn og L) w W → Ord W og cap (rmL L i) → Calls Try.prog 56 #[.pointer (some ⟨p, 3, none⟩)] W fun e w' => e = .returned (.iface 57 (.pointer (some ⟨L[i].blk, 0, none⟩))) ∧ At w' p (.cells (cs.setIfInBounds 3 (.slice (some ⟨og, 0, none⟩) n cap)) ty (0, 0)) ∧ Ord w' og cap (removeL L i) ∧ At w' L[i].blk (.cells (thC L[i] (-1)) 60 (0, 0)) ∧ Beside (fun k => k = p ∨ ordOwn og L k) w w') := Lib.hid (by
    intro W hb ho
    rw [HRL.out.1] at ho
    have hpm : (removeL L i ++ [L[i]]).Perm L := by rw [← HRL.out.1]; exact HRL.out.2.1
    refine (pop_any p ty n cs og cap (removeL L i) L[i] W (HP.out.beside hb HPO.out) (by rw [HC.out, hn]) (by omega) ho (by rw [HRL.out.2.2]; omega) (fun h => HPO.out ((ordOwn_perm hpm).1 h)) (by omega)).mono ?_
    rintro e w3 ⟨rfl, hp3, ho3, ht3, hb3⟩
    refine ⟨rfl, hp3, ho3, ht3, (hb.mono (fun k _ h => .inr h)).trans' hb3 ?_⟩
    rintro k - (rfl | rfl)
    · exact .inl rfl
    · exact .inr (.inr ⟨L[i], List.getElem_mem hi, rfl⟩))
  rw [hn] at hl hs
  clear hp hO hpo hc hsw cc hn1
  by_cases hni : n = i
  · subst hni
    have HPP := Lib.hid (HFIN.out w (Beside.refl _ _) (by rw [HRM.out, if_pos rfl]; exact HO.out))
    clear hs
    go_enter Try.func24, Try.ntmps24
    go_wp2_with fail
    refine (len_any _ _ _ _).mono ?_
    rintro e w1 ⟨rfl, rfl⟩
    clear hl
    go_wp2_with fail
    refine HPP.out.mono ?_
    rintro e w3 ⟨rfl, hq⟩
    go_wp2_with fail
    go_ret
    exact ⟨rfl, hq⟩
  · have hne : (n : Int) ≠ (i : Int) := by omega
    have hneb : ((n : Int) == (i : Int)) = false := beq_false_of_ne hne
    rw [hn] at HS
    go_enter Try.func24, Try.ntmps24
    go_wp2_with fail
    refine (len_any _ _ _ _).mono ?_
    rintro e w1 ⟨rfl, rfl⟩
    clear hl
    go_wp2_with fail
    refine HS.out.mono ?_
    rintro e w1 ⟨rfl, ho1, hb1⟩
    have hp1 := HP.out.beside hb1 HPO.out
    have cc1 := hp1.cell 3 _ HC.out
    have hlen : (swapL L i n).length = L.length := by simp
    have HP1 := Lib.hid hp1
    have HB1 := Lib.hid hb1
    have HD := Lib.hid (down_any p og cap i n (swapL L i n) w1 (by rw [cc1, hlen]) (fun h => HPO.out ((ordOwn_perm HPM.out).1 h)) ho1 (by omega) (by omega) (by omega))
    clear hp1 cc1 ho1 hb1 hs
    go_wp2_with fail
    refine HD.out.mono ?_
    rintro e w2 ⟨rfl, ho2, -, -, hb2⟩
    have hb2' : Beside (ordOwn og L) w1 w2 := hb2.mono (fun k _ h => (ordOwn_perm HPM.out).1 h)
    have hpm2 := HDK.out.1.trans HPM.out
    have HB2 := Lib.hid (HB1.out.trans hb2')
    have hp2 := HP.out.beside HB2.out HPO.out
    have cc2 := hp2.cell 3 _ HC.out
    have hlen2 := hpm2.length_eq
    by_cases hb : i < (downL (swapL L i n) i n).2
    · have HPP := Lib.hid (HFIN.out w2 HB2.out (by rw [HRM.out, if_neg hni, if_pos hb]; exact ho2))
      clear ho2 hb2 hb2' hp2 cc2
      rw [decide_eq_true hb]
      go_wp2_with fail
      refine HPP.out.mono ?_
      rintro e w3 ⟨rfl, hq⟩
      go_wp2_with fail
      go_ret
      exact ⟨rfl, hq⟩
    · have HU := Lib.hid (up_any p og cap i (downL (swapL L i n) i n).1 w2 (by rw [cc2, hlen2]) (fun h => HPO.out ((ordOwn_perm hpm2).1 h)) ho2 (by omega) (by omega))
      have HPM2 := Lib.hid hpm2
      clear ho2 hb2 hb2' hp2 cc2
      rw [decide_eq_false hb]
      go_wp2_with fail
      refine HU.out.mono ?_
      rintro e w3 ⟨rfl, ho3, -, -, hb3⟩
      have hb3' : Beside (ordOwn og L) w2 w3 := hb3.mono (fun k _ h => (ordOwn_perm HPM2.out).1 h)
      have HPP := Lib.hid (HFIN.out w3 (HB2.out.trans hb3') (by rw [HRM.out, if_neg hni, if_neg hb]; exact ho3))
      clear ho3 hb3 hb3'
      go_wp2_with fail
      refine HPP.out.mono ?_
      rintro e w4 ⟨rfl, hq⟩
      go_wp2_with fail
      go_ret
      exact ⟨rfl, hq⟩
end Go.Proofs.Ythmnbjdmbajhkaa
