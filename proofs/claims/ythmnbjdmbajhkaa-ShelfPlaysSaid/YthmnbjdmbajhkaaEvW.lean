/-
  Evict, whatever the shelf holds.
-/
import Derived.Test.YthmnbjdmbajhkaaEvP
import Derived.Test.YthmnbjdmbajhkaaPutNot
namespace Go.Proofs.Ythmnbjdmbajhkaa
set_option linter.unusedVariables false
open Go.RowKit
attribute [local go_sem] Oper.semAt_some

/-- the IDs of things, as cells -/
def idC (G : List Th) : List Value := G.flatMap fun x => [.int .u32 x.v, .int .u32 x.u]
theorem idC_snoc (G : List Th) (x : Th) : idC (G ++ [x]) = idC G ++ [.int .u32 x.v, .int .u32 x.u] := by simp [idC]

/-- the shelf's row, map and order -/
structure ShB (w : World) (p m c : Nat) (b : Int) (r : Option Addr) (cap : Nat) (E : List (Th × Nat)) (L : List Th) : Prop where
  row : At w p (.cells #[.int .i64 b, .int .i64 (sumE E), .map (some m), .slice r L.length cap] 56 (0, 0))
  map : TMap w m E c
  ord : OrdS w r cap L
/-- what Evict may write -/
def evOwn (p m : Nat) (r : Option Addr) (L : List Th) (k : Nat) : Prop := k = p ∨ k = m ∨ sOwn r L k

theorem OrdS.lt {w : World} {r : Option Addr} {cap : Nat} {L : List Th} (h : OrdS w r cap L) {k : Nat} (hk : sOwn r L k) : k < w.heap.size := by
  rcases h with ⟨rfl, rfl, rfl⟩ | ⟨og, rfl, _, hO⟩
  · rcases hk with ⟨_, h, _⟩ | ⟨_, h, _⟩ <;> cases h
  · rcases sOwn_some.1 hk with rfl | ⟨x, hx, rfl⟩
    · exact hO.lt
    · obtain ⟨i, hi, rfl⟩ := List.mem_iff_getElem.1 hx
      exact (hO.th i hi).lt
theorem owns_beside {own : Nat → Prop} {a b : World} {B e sz n : Nat} {v : Value} {xs : List Value} (h : a.ownsRow B e sz v n xs) (hb : Beside own a b) (ho : ∀ k, own k → k < B) : b.ownsRow B e sz v n xs := by
  refine ⟨h.1, ?_⟩
  rcases h.2 with h | ⟨g, c, cur, e, h0, hh, h1⟩
  · exact .inl h
  · exact .inr ⟨g, c, cur, e, h0, (hb.block g (Array.getElem?_eq_some_iff.1 hh).1 (fun k => by have := ho g k; omega)).trans hh, h1⟩
theorem sOwn_mono {r : Option Addr} {L M : List Th} (h : ∀ x ∈ M, x ∈ L) {k : Nat} (hk : sOwn r M k) : sOwn r L k := by
  rcases hk with hk | ⟨x, hx, e⟩
  · exact .inl hk
  · exact .inr ⟨x, h x hx, e⟩

set_option maxRecDepth 100000 in
set_option maxHeartbeats 8000000 in
theorem evict_any (p m c : Nat) (b : Int) (r : Option Addr) (cap : Nat) (E : List (Th × Nat)) (L : List Th) (w : World) (hS : ShB w p m c b r cap E L) (hG : Good E L) (hL : L.length ≤ 65536)
    (hpo : ¬ sOwn r L p) (hmo : ¬ sOwn r L m) :
    Calls Try.prog 15 #[.pointer (some ⟨p, 0, none⟩)] w fun e w' => ∃ v, e = .returned v ∧ w'.ownsRow w.heap.size 31 2 v (evS b E L).2.2.length (idC (evS b E L).2.2) ∧
      (∃ cap', ShB w' p m c b r cap' (evS b E L).1 (evS b E L).2.1) ∧ Good (evS b E L).1 (evS b E L).2.1 ∧ (∀ x ∈ (evS b E L).2.1, x ∈ L) ∧ Beside (evOwn p m r L) w w' := by
  have HS := Lib.hid hS
  have HG := Lib.hid hG
  have HL := Lib.hid hL
  have HPO := Lib.hid hpo
  have HMO := Lib.hid hmo
  have hpl := hS.row.lt
  have HEL : Hid (∀ k, evOwn p m r L k → k < w.heap.size) := Lib.hid (by
    rintro k (rfl | rfl | h)
    · exact hS.row.lt
    · exact At.lt hS.map
    · exact hS.ord.lt h)
  clear hS hG hL hpo hmo
  go_enter Try.func15, Try.ntmps15
  go_wp2_with fail
  go_loopw [3] (fun v wr => ∃ (E1 : List (Th × Nat)) (L1 G : List Th), ShB wr p m c b r cap E1 L1 ∧ Good E1 L1 ∧ (∀ x ∈ L1, x ∈ L) ∧ L1.length ≤ L.length ∧ wr.ownsRow w.heap.size 31 2 v G.length (idC G) ∧ G.length + L1.length ≤ L.length ∧ Beside (evOwn p m r L) w wr ∧ Hid (evS b E L = ((evS b E1 L1).1, (evS b E1 L1).2.1, G ++ (evS b E1 L1).2.2))) (fun _ wr => match wr.cell? ⟨p, 3, none⟩ with | some (.slice _ n _) => n | _ => 0)
  case atStart => exact ⟨E, L, [], HS.out, HG.out, fun _ h => h, Nat.le_refl _, World.ownsRow_nil _ _ _ _, by simp, Beside.refl _ _, Lib.hid (by simp)⟩
  case round =>
    obtain ⟨E1, L1, G, hs, hg, hsub, hlen, hown, hcnt, hbes, hev⟩ := hrel
    have HS1 := Lib.hid hs
    have HG1 := Lib.hid hg
    have HSUB := Lib.hid hsub
    have HOWN := Lib.hid hown
    have HCNT := Lib.hid hcnt
    have HB := Lib.hid hbes
    have c0 := hs.row.cell 0 (.int .i64 b) rfl
    have c1 := hs.row.cell 1 (.int .i64 (sumE E1)) rfl
    have c3 := hs.row.cell 3 (.slice r L1.length cap) rfl
    have HSD : Hid (∀ n, ShB (wr.drewN n) p m c b r cap E1 L1) := Lib.hid (fun n => ⟨HS1.out.row, HS1.out.map, HS1.out.ord.beside (own := fun _ => False) ((Beside.refl _ wr).drewN n) (fun _ _ h => h)⟩)
    have HFIN : Hid (∀ n, evS b E1 L1 = (E1, L1, []) → (wr.drewN n).ownsRow w.heap.size 31 2 u3 (evS b E L).2.2.length (idC (evS b E L).2.2) ∧
      (∃ cap', ShB (wr.drewN n) p m c b r cap' (evS b E L).1 (evS b E L).2.1) ∧ Good (evS b E L).1 (evS b E L).2.1 ∧ (∀ x ∈ (evS b E L).2.1, x ∈ L) ∧ Beside (evOwn p m r L) w (wr.drewN n)) := Lib.hid (by
        intro n h
        rw [hev.out, h]
        simp only [List.append_nil]
        exact ⟨HOWN.out, ⟨cap, HSD.out n⟩, HG1.out, HSUB.out, HB.out.drewN n⟩)
    clear hs hg hsub hlen hown hcnt hbes
    by_cases hgt : sumE E1 > b
    · cases L1 with
      | nil =>
        have HE := Lib.hid (evS_nil b E1)
        generalize sumE E1 = S1 at *
        simp only [List.length_nil] at c3
        go_wp2_with fail
        go_quiet (fail)
        go_wp2_with fail
        go_ret
        exact ⟨_, rfl, HFIN.out _ HE.out⟩
      | cons x L2 =>
        obtain ⟨og, hrr, hcm, hO1⟩ : ∃ og, r = some ⟨og, 0, none⟩ ∧ cap ≤ maxLen ∧ Ord wr og cap (x :: L2) := by
          rcases HS1.out.ord with ⟨_, _, h⟩ | h
          · cases h
          · exact h
        subst hrr
        obtain ⟨n0, hx0⟩ := HG1.out.sub x (by simp)
        obtain ⟨i, hi⟩ := at_mem HG1.out.ids hx0
        have HGO := Lib.hid (evS_go (b := b) (L := L2) hgt hi)
        have hbd := sumE_bound HG1.out.rng
        have hrg : 0 ≤ x.size ∧ x.size ≤ 1048576 := HG1.out.rng _ hx0
        have hct := HG1.out.cnt
        have hwr : IntKind.i64.wrap (sumE E1 - x.size) = sumE E1 - x.size := wrapS (by omega) (by omega)
        obtain ⟨hil, hix, -⟩ := at_some hi
        have HSE : Hid (sumE (E1.eraseIdx i) = sumE E1 - x.size) := Lib.hid (by rw [sumE_erase hil, hix])
        have HI := Lib.hid hi
        have HWR := Lib.hid hwr
        have HGP := Lib.hid (HG1.out.pop hi)
        have HPP := Lib.hid (popL_parts x L2)
        have hpo1 : ¬ ordOwn og (x :: L2) p := fun h => HPO.out (sOwn_mono HSUB.out (sOwn_some.2 h))
        have hlen2 : L2.length ≤ 999999 := by have h1 := HCNT.out; have h2 := HL.out; simp only [List.length_cons] at h1; omega
        obtain ⟨g0, -⟩ := hO1.at 0 (by simp)
        simp only [List.getElem_cons_zero] at g0
        unfold thP at g0
        have HPOP := Lib.hid (fun n => hpop_gen p 56 _ og cap x L2 (wr.drewN n) (HSD.out n).row rfl (by
          rcases (HSD.out n).ord with ⟨h, _, _⟩ | ⟨o, h, _, h2⟩
          · cases h
          · cases h; exact h2) hpo1 hlen2)
        clear hi hx0 hix hil hbd hrg hct hwr hO1 hpo1
        have hlc : (x :: L2).length = L2.length + 1 := rfl
        rw [hlc] at c3
        have hde : decide (b < sumE E1) = true := decide_eq_true hgt
        generalize hS1 : sumE E1 = S1 at *
        go_wp2_with fail
        go_quiet (fail)
        go_wp2_with fail
        refine (HPOP.out nq).mono ?_
        rintro e w1 ⟨rfl, hp1, ho1, ht1, hb1⟩
        have hpm : m ≠ p := by
          rintro rfl
          have h := (HS1.out.row).symm.trans HS1.out.map
          cases h
        have hown1 : ∀ k, (k = p ∨ ordOwn og (x :: L2) k) → evOwn p m (some ⟨og, 0, none⟩) L k := by
          rintro k (h | h)
          · exact .inl h
          · exact .inr (.inr (sOwn_mono HSUB.out (sOwn_some.2 h)))
        have hm1 : TMap w1 m E1 c := At.beside (HSD.out nq).map hb1 (by
          rintro (h | h)
          · exact hpm h
          · exact HMO.out (sOwn_mono HSUB.out (sOwn_some.2 h)))
        have hxp : x.blk ≠ p := fun e => HPO.out (.inr ⟨x, HSUB.out x (by simp), e⟩)
        have hxm : x.blk ≠ m := fun e => HMO.out (.inr ⟨x, HSUB.out x (by simp), e⟩)
        have HF := Lib.hid (forget_any p m c i b S1 (-1) _ E1 x x w1 hp1 hm1 HI.out ht1 HWR.out)
        have HB1 : Hid (Beside (evOwn p m (some ⟨og, 0, none⟩) L) wr w1) := Lib.hid (((Beside.refl _ wr).drewN nq).trans (hb1.mono (fun k _ => hown1 k)))
        have HO1 := Lib.hid ho1
        have HT1 := Lib.hid ht1
        clear hp1 ho1 ht1 hb1 hm1 hown1
        go_wp2_with fail
        refine HF.out.mono ?_
        rintro e w2 ⟨rfl, hp2, hm2, hb2⟩
        have HB2 : Hid (Beside (evOwn p m (some ⟨og, 0, none⟩) L) wr w2) := Lib.hid (HB1.out.trans (hb2.mono (fun k _ h => by
          rcases h with h | h
          · exact .inl h
          · exact .inr (.inl h))))
        have hnx : ∀ k, sOwn (some ⟨og, 0, none⟩) (popL (x :: L2)) k → sOwn (some ⟨og, 0, none⟩) L k := fun k h => sOwn_mono (fun y hy => HSUB.out y (List.mem_cons_of_mem _ (HPP.out.2.1.mem_iff.1 hy))) h
        have HO2 : Hid (OrdS w2 (some ⟨og, 0, none⟩) cap (popL (x :: L2))) := Lib.hid (.inr ⟨og, rfl, hcm, HO1.out.beside hb2 (fun k hk h => by
          have := hnx k (sOwn_some.2 hk)
          rcases h with rfl | rfl
          · exact HPO.out this
          · exact HMO.out this)⟩)
        have ht2 := HT1.out.beside hb2 (fun h => by
          rcases h with h | h
          · exact hxp h
          · exact hxm h)
        obtain ⟨t0, t1, -⟩ := thC_at ht2
        have HP2 := Lib.hid hp2
        have HM2 := Lib.hid hm2
        have HOW2 : Hid (w2.ownsRow w.heap.size 31 2 u3 G.length (idC G)) := Lib.hid (owns_beside HOWN.out HB2.out HEL.out)
        have hsz : w.heap.size ≤ w2.heap.size := Nat.le_trans HB.out.size HB2.out.size
        have hGn : G.length ≤ 1000000 := by have h1 := HCNT.out; have h2 := HL.out; omega
        clear hp2 hm2 hb2 ht2 hnx
        go_wp2_with (at_builtin
                     refine appJ rfl (.tmp 38) (.tmp 43) rfl rfl rfl (by simp) HOW2.out hsz hGn ?_
                     intro v' w3 ho3 hb3 hat3
                     have HO3 := Lib.hid ho3
                     have HB3 := Lib.hid hb3
                     clear ho3 hb3 hat3)
        have h3 : ∀ k, evOwn p m (some ⟨og, 0, none⟩) L k → ¬ (u3.ownBlock = some k) := fun k h e => by
          have h1 := (World.ownsRow.lt HOW2.out k e).1
          have h2 := HEL.out k h
          omega
        have hnx : ∀ k, sOwn (some ⟨og, 0, none⟩) (popL (x :: L2)) k → sOwn (some ⟨og, 0, none⟩) L k := fun k h => sOwn_mono (fun y hy => HSUB.out y (List.mem_cons_of_mem _ (HPP.out.2.1.mem_iff.1 hy))) h
        have HSN : Hid (ShB w3 p m c b (some ⟨og, 0, none⟩) cap (E1.eraseIdx i) (popL (x :: L2))) := Lib.hid ⟨by
            have := HP2.out.beside HB3.out (h3 p (.inl rfl))
            rw [HSE.out, HPP.out.2.2]
            exact this, At.beside HM2.out HB3.out (h3 m (.inr (.inl rfl))), HO2.out.beside HB3.out (fun k hk => h3 k (.inr (.inr (hnx k hk))))⟩
        have HBN : Hid (Beside (evOwn p m (some ⟨og, 0, none⟩) L) w w3) := Lib.hid ((HB.out.trans HB2.out).trans' HB3.out (fun k hk e => by
          have h1 := (World.ownsRow.lt HOW2.out k e).1
          omega))
        have HON : Hid (w3.ownsRow w.heap.size 31 2 v' (G ++ [x]).length (idC (G ++ [x]))) := Lib.hid (by rw [idC_snoc, List.length_append]; exact HO3.out)
        have HEV : Hid (evS b E L = ((evS b (E1.eraseIdx i) (popL (x :: L2))).1, (evS b (E1.eraseIdx i) (popL (x :: L2))).2.1, (G ++ [x]) ++ (evS b (E1.eraseIdx i) (popL (x :: L2))).2.2)) := Lib.hid (by
          rw [hev.out, HGO.out]
          simp)
        have HCN : Hid ((G ++ [x]).length + (popL (x :: L2)).length ≤ L.length) := Lib.hid (by
          have h1 := HCNT.out
          rw [HPP.out.2.2]
          simp only [List.length_cons, List.length_append, List.length_nil] at h1 ⊢
          omega)
        have hme : w3.cell? ⟨p, 3, none⟩ = some (.slice (some ⟨og, 0, none⟩) L2.length cap) := by
          have := HSN.out.row.cell 3 _ rfl
          rwa [HPP.out.2.2] at this
        clear h3
        go_roundw
        case rel => exact ⟨E1.eraseIdx i, popL (x :: L2), G ++ [x], HSN.out, HGP.out, fun y hy => HSUB.out y (List.mem_cons_of_mem _ (HPP.out.2.1.mem_iff.1 hy)), by have := HCN.out; omega, HON.out, HCN.out, HBN.out, HEV⟩
        case measure => rw [hme, c3]; simp
    · have HE := Lib.hid (evS_stop (L := L1) hgt)
      generalize sumE E1 = S1 at *
      have hde : decide (b < S1) = false := decide_eq_false hgt
      go_wp2_with fail
      go_quiet (fail)
      go_wp2_with fail
      go_ret
      exact ⟨_, rfl, HFIN.out _ HE.out⟩
end Go.Proofs.Ythmnbjdmbajhkaa
