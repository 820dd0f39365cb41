/-
  heap.Pop, heap.Fix and heap.Remove, whatever the order holds.
-/
import Derived.Test.YthmnbjdmbajhkaaPure
namespace Go.Proofs.Ythmnbjdmbajhkaa
set_option linter.unusedVariables false
open Go.RowKit
attribute [local go_sem] Oper.semAt_some

theorem ordOwn_perm {og : Nat} {L M : List Th} (h : M.Perm L) {k : Nat} : ordOwn og M k ↔ ordOwn og L k := by
  unfold ordOwn
  constructor
  · rintro (e | ⟨x, hx, e⟩)
    · exact .inl e
    · exact .inr ⟨x, h.mem_iff.1 hx, e⟩
  · rintro (e | ⟨x, hx, e⟩)
    · exact .inl e
    · exact .inr ⟨x, h.mem_iff.2 hx, e⟩

set_option maxRecDepth 100000 in
set_option maxHeartbeats 4000000 in
theorem hpop_gen (p ty : Nat) (cs : Array Value) (og cap : Nat) (x : Th) (L : List Th) (w : World) (hp : At w p (.cells cs ty (0, 0))) (hc : cs[3]? = some (.slice (some ⟨og, 0, none⟩) (L.length + 1) cap)) (hO : Ord w og cap (x :: L))
    (hpo : ¬ ordOwn og (x :: L) p) (hL : L.length ≤ 999999) :
    Calls Try.prog 29 #[.iface 62 (.pointer (some ⟨p, 3, none⟩))] w fun e w' => e = .returned (.iface 57 (.pointer (some ⟨x.blk, 0, none⟩))) ∧
      At w' p (.cells (cs.setIfInBounds 3 (.slice (some ⟨og, 0, none⟩) L.length cap)) ty (0, 0)) ∧ Ord w' og cap (popL (x :: L)) ∧ At w' x.blk (.cells (thC x (-1)) 60 (0, 0)) ∧ Beside (fun k => k = p ∨ ordOwn og (x :: L) k) w w' := by
  have hcap : L.length + 1 ≤ cap := by
    obtain ⟨_, _, _, h, _⟩ := hO.row
    simpa using h
  have cc := hp.cell 3 _ hc
  have hl := meth_len ⟨p, 3, none⟩ w _ (load54 cc)
  have hs := meth_swap ⟨p, 3, none⟩ w _ (load54 cc)
  have hsw := swap_all og cap 0 L.length (x :: L) w hO (by simp) (by simp) (by simp; omega)
  have hi := inv_pop
  have HP := Lib.hid hp
  have HC := Lib.hid hc
  have HPO := Lib.hid hpo
  have HS : Hid (Calls Try.prog 50 #[.slice (some ⟨og, 0, none⟩) (L.length + 1) cap, .int .i64 0, .int .i64 L.length] w fun e w' => e = .returned (.tuple #[]) ∧ Ord w' og cap (swapL (x :: L) 0 L.length) ∧ Beside (ordOwn og (x :: L)) w w') := Lib.hid hsw
  have HPM := Lib.hid (swapL_perm (L := x :: L) (i := 0) (j := L.length) (by simp) (by simp))
  have HPL := Lib.hid (popL_parts x L)
  have HDK := Lib.hid (downL_keeps (swapL (x :: L) 0 L.length) 0 L.length (by simp))
  clear hp hO hpo hc hsw cc
  go_enter Try.func29, Try.ntmps29
  go_wp2_with fail
  refine (len_any _ _ _ _).mono ?_
  rintro e w1 ⟨rfl, rfl⟩
  go_wp2_with fail
  refine HS.out.mono ?_
  rintro e w1 ⟨rfl, ho1, hb1⟩
  have hp1 := HP.out.beside hb1 HPO.out
  have cc1 := hp1.cell 3 _ HC.out
  have HP1 := Lib.hid hp1
  have HB1 := Lib.hid hb1
  have hlen : (swapL (x :: L) 0 L.length).length = L.length + 1 := by simp
  have HD := Lib.hid (down_any p og cap 0 L.length (swapL (x :: L) 0 L.length) w1 (by rw [cc1, hlen]) (fun h => HPO.out ((ordOwn_perm HPM.out).1 h)) ho1 (by omega) (by omega) (by omega))
  clear hp1 cc1 ho1 hb1 hs hl
  go_wp2_with fail
  refine HD.out.mono ?_
  rintro e w2 ⟨rfl, ho2, -, -, hb2⟩
  rw [HPL.out.1] at ho2
  have hb2' : Beside (ordOwn og (x :: L)) w1 w2 := hb2.mono (fun k _ h => (ordOwn_perm HPM.out).1 h)
  have hp2 := HP1.out.beside hb2' HPO.out
  have hpm : (popL (x :: L) ++ [x]).Perm (x :: L) := by rw [← HPL.out.1]; exact HDK.out.1.trans HPM.out
  have HB2 := Lib.hid (HB1.out.trans hb2')
  have HPP := Lib.hid (pop_any p ty L.length cs og cap (popL (x :: L)) x w2 hp2 HC.out hcap ho2 HPL.out.2.2 (fun h => HPO.out ((ordOwn_perm hpm).1 h)) hL)
  clear ho2 hb2 hb2' hp2
  go_wp2_with fail
  refine HPP.out.mono ?_
  rintro e w3 ⟨rfl, hp3, ho3, ht3, hb3⟩
  go_wp2_with fail
  go_ret
  refine ⟨rfl, hp3, ho3, ht3, (HB2.out.mono (fun k _ h => .inr h)).trans' hb3 ?_⟩
  rintro k - (rfl | rfl)
  · exact .inl rfl
  · exact .inr (.inr ⟨x, by simp, rfl⟩)

set_option maxRecDepth 100000 in
set_option maxHeartbeats 4000000 in
theorem hfix_gen (p ty : Nat) (cs : Array Value) (og cap i : Nat) (L : List Th) (w : World) (hp : At w p (.cells cs ty (0, 0))) (hc : cs[3]? = some (.slice (some ⟨og, 0, none⟩) L.length cap)) (hO : Ord w og cap L) (hi : i < L.length)
    (hpo : ¬ ordOwn og L p) (hL : L.length ≤ 999999) :
    Calls Try.prog 22 #[.iface 62 (.pointer (some ⟨p, 3, none⟩)), .int .i64 i] w fun e w' => e = .returned (.tuple #[]) ∧
      At w' p (.cells cs ty (0, 0)) ∧ Ord w' og cap (fixL L i) ∧ Beside (ordOwn og L) w w' := by
  have cc := hp.cell 3 _ hc
  have hl := meth_len ⟨p, 3, none⟩ w _ (load54 cc)
  have HP := Lib.hid hp
  have HC := Lib.hid hc
  have HPO := Lib.hid hpo
  have HDK := Lib.hid (downL_keeps L i L.length (Nat.le_refl _))
  have HD := Lib.hid (down_any p og cap i L.length L w cc hpo hO (Nat.le_refl _) hi (by omega))
  have HF : Hid (fixL L i = if i < (downL L i L.length).2 then (downL L i L.length).1 else upL (downL L i L.length).1 i) := Lib.hid rfl
  clear hp hO hpo hc cc
  go_enter Try.func22, Try.ntmps22
  go_wp2_with fail
  refine (len_any _ _ _ _).mono ?_
  rintro e w1 ⟨rfl, rfl⟩
  clear hl
  go_wp2_with fail
  refine HD.out.mono ?_
  rintro e w2 ⟨rfl, ho2, -, -, hb2⟩
  have hp2 := HP.out.beside hb2 HPO.out
  have cc2 := hp2.cell 3 _ HC.out
  have hlen := HDK.out.1.length_eq
  have HU := Lib.hid (up_any p og cap i (downL L i L.length).1 w2 (by rw [cc2, hlen]) (fun h => HPO.out ((ordOwn_perm HDK.out.1).1 h)) ho2 (by omega) (by omega))
  have HP2 := Lib.hid hp2
  have HB2 := Lib.hid hb2
  have HO2 := Lib.hid ho2
  clear hp2 hb2 ho2 cc2
  by_cases hb : i < (downL L i L.length).2
  · rw [decide_eq_true hb]
    go_wp2_with fail
    go_end0
    exact ⟨rfl, HP2.out, by rw [HF.out, if_pos hb]; exact HO2.out, HB2.out⟩
  · rw [decide_eq_false hb]
    go_wp2_with fail
    refine HU.out.mono ?_
    rintro e w3 ⟨rfl, ho3, -, -, hb3⟩
    have hb3' : Beside (ordOwn og L) w2 w3 := hb3.mono (fun k _ h => (ordOwn_perm HDK.out.1).1 h)
    go_wp2_with fail
    go_end0
    exact ⟨rfl, HP2.out.beside hb3' HPO.out, by rw [HF.out, if_neg hb]; exact ho3, HB2.out.trans hb3'⟩
end Go.Proofs.Ythmnbjdmbajhkaa
