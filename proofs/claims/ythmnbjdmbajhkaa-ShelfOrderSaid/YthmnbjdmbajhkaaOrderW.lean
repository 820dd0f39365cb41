/-
  ShelfOrder, the walk.
-/
import Derived.Test.YthmnbjdmbajhkaaOrderP
import Derived.Deep.CutBlock
namespace Go.Proofs.Ythmnbjdmbajhkaa
set_option linter.unusedVariables false
open Go.RowKit
attribute [local go_sem] Oper.semAt_some

namespace shelfOrder
set_option maxRecDepth 100000 in
set_option maxHeartbeats 8000000 in
theorem walk (w : World) (bud : Int) (wb : (Lit.int .i64 bud).wf = true) (turn : Int) (wt : (Lit.int .i64 turn).wf = true) (v : Value) (l : List OpD) (hr : RowO w v l) : Calls Try.prog 6 #[.int .i64 bud, .int .i64 turn, v] w fun e w' => e = .returned (.bool true) ∧ Below w.heap.size w w' := by
  obtain ⟨av, lcap, rfl, hl1, hl2, hl3, hl4⟩ := hr
  have HL4 := Lib.hid hl4
  have HL3 := Lib.hid hl3
  clear hl4 hl3
  go_enter Try.func6, Try.ntmps6
  go_wp2_with fail
  obtain ⟨bn, hbn, eb⟩ : ∃ a : Nat, a < 500 ∧ wrap64 ((IntKind.u64.wrap bud).tmod 500) = (a : Int) := modN 500 (by decide) (by decide) bud
  generalize wrap64 ((IntKind.u64.wrap bud).tmod 500) = zb at *
  subst eb
  refine (new_any (bn : Int) w (by omega) (by omega)).mono ?_
  rintro e w1 ⟨rfl, rfl⟩
  have HSA := Lib.hid (sh_new (bn : Int) w)
  have HB1 : Hid (Below w.heap.size w ((w.alloc (.map #[] 0)).alloc (.cells #[.int .i64 (bn : Int), .int .i64 0, .map (some w.heap.size), .slice none 0 0] 56))) := Lib.hid (((Below.refl _ _).alloc (Nat.le_refl _) _).alloc (by simp) _)
  have HZ1 : Hid (((w.alloc (.map #[] 0)).alloc (.cells #[.int .i64 (bn : Int), .int .i64 0, .map (some w.heap.size), .slice none 0 0] 56)).heap.size = w.heap.size + 2) := Lib.hid (by simp)
  generalize ((w.alloc (.map #[] 0)).alloc (.cells #[.int .i64 (bn : Int), .int .i64 0, .map (some w.heap.size), .slice none 0 0] 56)) = w1 at *
  obtain ⟨pa, hpa⟩ : ∃ p, w.heap.size + 1 = p := ⟨_, rfl⟩
  rw [hpa] at HSA ⊢
  have HPA := Lib.hid hpa
  clear hpa
  go_wp2_with fail
  refine (new_any (bn : Int) w1 (by omega) (by omega)).mono ?_
  rintro e w2 ⟨rfl, rfl⟩
  have hb2 : Below w1.heap.size w1 ((w1.alloc (.map #[] 0)).alloc (.cells #[.int .i64 (bn : Int), .int .i64 0, .map (some w1.heap.size), .slice none 0 0] 56)) := ((Below.refl _ _).alloc (Nat.le_refl _) _).alloc (by simp) _
  have HSB := Lib.hid (sh_new (bn : Int) w1)
  have HSA2 := Lib.hid (HSA.out.below hb2)
  have HB2 := Lib.hid (HB1.out.trans (hb2.mono HB1.out.size))
  generalize ((w1.alloc (.map #[] 0)).alloc (.cells #[.int .i64 (bn : Int), .int .i64 0, .map (some w1.heap.size), .slice none 0 0] 56)) = w2 at *
  obtain ⟨pb, hpb⟩ : ∃ p, w1.heap.size + 1 = p := ⟨_, rfl⟩
  obtain ⟨mb, hmb⟩ : ∃ p, w1.heap.size = p := ⟨_, rfl⟩
  rw [hpb, hmb] at HSB
  rw [hpb]
  have HPB : Hid (mb = w.heap.size + 2 ∧ pb = w.heap.size + 3 ∧ pa = w.heap.size + 1) := Lib.hid (by have := HZ1.out; have := HPA.out; omega)
  clear hb2 HSA HB1 HZ1 HPA hpb hmb
  go_wp2_with fail
  refine (awake_any w2).mono ?_
  rintro e w3 ⟨rfl, hb3⟩
  have HSA3 := Lib.hid (HSA2.out.below hb3)
  have HSB3 := Lib.hid (HSB.out.below hb3)
  have HB3 := Lib.hid (HB2.out.trans (hb3.mono HB2.out.size))
  have HD3 : Hid ((∀ k, shOwn pa w.heap.size none [] k → shOwn pb mb none [] k → False) ∧ (∀ k, shOwn pa w.heap.size none [] k → w.heap.size ≤ k) ∧ (∀ k, shOwn pb mb none [] k → w.heap.size ≤ k)) := Lib.hid (by
    obtain ⟨h1, h2, h3⟩ := HPB.out
    refine ⟨?_, ?_, ?_⟩
    · rintro k (rfl | rfl | ⟨_, h, _⟩ | ⟨_, h, _⟩)
      · rintro (h | h | ⟨_, h, _⟩ | ⟨_, h, _⟩)
        · omega
        · omega
        · cases h
        · cases h
      · rintro (h | h | ⟨_, h, _⟩ | ⟨_, h, _⟩)
        · omega
        · omega
        · cases h
        · cases h
      · cases h
      · cases h
    · rintro k (rfl | rfl | ⟨_, h, _⟩ | ⟨_, h, _⟩)
      · omega
      · omega
      · cases h
      · cases h
    · rintro k (rfl | rfl | ⟨_, h, _⟩ | ⟨_, h, _⟩)
      · omega
      · omega
      · cases h
      · cases h)
  have HLB : Hid (∀ k, shOwn pb mb none [] k → w.heap.size ≤ k) := Lib.hid HD3.out.2.2
  clear hb3 HSA2 HSB HB2 HPB
  go_upto_block 0 with fail
  go_cut [11, 12] (fun mv iv wr => ∃ (c cap : Nat) (r : Option Addr) (E : List (Th × Nat)) (L : List Th) (R : List (Int × (Th × Bool))), R.length ≤ 60 ∧ Sh wr pa w.heap.size c (bn : Int) r cap E L (R.map (·.2)) ∧ Sh wr pb mb 0 (bn : Int) none 0 [] [] [] ∧
    wr.ownsRow w.heap.size 33 6 mv R.length (opC R) ∧ (∀ k, shOwn pa w.heap.size r E k → shOwn pb mb none [] k → False) ∧ (∀ k, shOwn pa w.heap.size r E k → w.heap.size ≤ k) ∧ Below w.heap.size w wr ∧ R.length ≤ E.length ∧ (∀ x ∈ R, 0 ≤ x.2.1.size ∧ x.2.1.size ≤ 1000))
  case rest =>
    obtain ⟨c, cap, r, E, L, R, hR60, hsa, hsb, hrow, hdis, hlow, hbw, hRE, hrs⟩ := hcut
    have HA := Lib.hid hsa
    have HB := Lib.hid hsb
    have HR := Lib.hid hrow
    have HD := Lib.hid hdis
    have HW := Lib.hid hlow
    have HBW := Lib.hid hbw
    have HRS := Lib.hid hrs
    obtain ⟨ra, rcap, rfl, -, hrg⟩ := owns_shape hrow
    have HRG := Lib.hid hrg
    have HBL : Hid (∀ k, shOwn pb mb none [] k → w.heap.size ≤ k) := HLB
    clear hsa hsb hrow hdis hlow hbw hrs hrg
    obtain ⟨s, hs⟩ : ∃ s : Nat, 0 < R.length → s < R.length ∧ wrap64 ((IntKind.u64.wrap turn).tmod (R.length : Int)) = (s : Int) := by
      by_cases h0 : 0 < R.length
      · obtain ⟨a, ha, e⟩ := modN R.length h0 (by omega) turn
        exact ⟨a, fun _ => ⟨ha, e⟩⟩
      · exact ⟨0, fun h => absurd h h0⟩
    have HS := Lib.hid hs
    clear hs
    go_upto_block 2 with fail
    go_cut [14] (fun jv wr => ∃ (c' cap' : Nat) (r' : Option Addr) (F : List (Th × Nat)) (M : List Th) (K : List (Th × Bool)), Sh wr pa w.heap.size c (bn : Int) r cap E L (R.map (·.2)) ∧ Sh wr pb mb c' (bn : Int) r' cap' F M K ∧
      (∀ k, shOwn pa w.heap.size r E k → shOwn pb mb r' F k → False) ∧ (∀ k, shOwn pb mb r' F k → w.heap.size ≤ k) ∧ Below w.heap.size w wr ∧ ((R.map (·.2)).map keyH).Perm (K.map keyH))
    case rest =>
      obtain ⟨c', cap', r', F, M, K, hsa, hsb, hdis, hlb, hbw2, hperm⟩ := hcut
      obtain ⟨k1, k2, k3⟩ := Rel.alike (b := (bn : Int)) hsa.rel hsb.rel hperm
      obtain ⟨k4, k5⟩ := idC_key k1
      have hGL : (evS (bn : Int) E L).2.2.length ≤ 1000000 := by
        obtain ⟨-, h2, -⟩ := evS_facts (bn : Int) L.length E L rfl hsa.rel.good
        have := hsa.rel.good.cnt
        omega
      have HAW := Lib.hid hsa
      have HBB := Lib.hid hsb
      have HD2 := Lib.hid hdis
      have HLB2 := Lib.hid hlb
      have HBW2 := Lib.hid hbw2
      have HK2 := Lib.hid k2
      have HK3 := Lib.hid k3
      have HK4 := Lib.hid k4
      have HK5 := Lib.hid k5
      have HWA : Hid (∀ k, evOwn pa w.heap.size r L k → w.heap.size ≤ k) := Lib.hid (fun k hk => HW.out k (HA.out.own hk))
      clear hsa hsb hdis hlb hbw2 hperm k1 k2 k3 k4 k5
      go_wp2_with fail
      refine (evictSh HAW.out).mono ?_
      rintro e w4 ⟨va, capa, Ha, rfl, ho4, hs4, -, hb4, hg4⟩
      have HO4 := Lib.hid ho4
      have HS4 := Lib.hid hs4
      have HB4 : Hid (Sh w4 pb mb c' (bn : Int) r' cap' F M K) := Lib.hid (HBB.out.beside hb4 (fun k h1 h2 => HD2.out k (HAW.out.own h2) h1))
      have HW4 : Hid (Below w.heap.size w w4) := Lib.hid (HBW2.out.trans (hb4.below HWA.out HBW2.out.size))
      have HD4 : Hid (∀ k, shOwn pa w.heap.size r (evS (bn : Int) E L).1 k → shOwn pb mb r' F k → False) := Lib.hid (fun k h1 h2 => HD2.out k (hg4 k h1) h2)
      clear ho4 hs4 hb4 hg4
      go_wp2_with fail
      refine (evictSh HB4.out).mono ?_
      rintro e w5 ⟨vb, capb, Hb, rfl, ho5, hs5, -, hb5, hg5⟩
      have HS5 := Lib.hid hs5
      have HA5 : Hid (Sh w5 pa w.heap.size c (bn : Int) r capa (evS (bn : Int) E L).1 (evS (bn : Int) E L).2.1 Ha) := Lib.hid (HS4.out.beside hb5 (fun k h1 h2 => HD4.out k h1 (HB4.out.own h2)))
      have ho4 := owns_beside' HO4.out hb5 (fun k hk => HB4.out.apart HO4.out (by decide) k (HB4.out.own hk))
      rw [← HK5.out, ← HK4.out] at ho5
      have HW5 : Hid (Below w.heap.size w w5) := Lib.hid (HW4.out.trans (hb5.below (fun k hk => HLB2.out k (HB4.out.own hk)) HW4.out.size))
      have HP := Lib.hid (plainI_any ho4 ho5 hGL)
      clear hs5 hb5 hg5 ho4 ho5
      go_wp2_with fail
      refine HP.out.mono ?_
      rintro e w6 ⟨rfl, hb6⟩
      have HA6 := Lib.hid (HA5.out.below hb6)
      have HS6 := Lib.hid (HS5.out.below hb6)
      have HW6 : Hid (Below w.heap.size w w6) := Lib.hid (HW5.out.trans (hb6.mono HW5.out.size))
      clear hb6
      go_wp2_with fail
      refine (size_any pa w.heap.size c (bn : Int) r capa _ _ w6 HA6.out.sh).mono ?_
      rintro e w7 ⟨rfl, hb7⟩
      have HA7 := Lib.hid (HA6.out.below hb7)
      have HS7 := Lib.hid (HS6.out.below hb7)
      have HW7 : Hid (Below w.heap.size w w7) := Lib.hid (HW6.out.trans (hb7.mono HW6.out.size))
      clear hb7
      go_wp2_with fail
      refine (size_any pb mb c' (bn : Int) r' capb _ _ w7 HS7.out.sh).mono ?_
      rintro e w8 ⟨rfl, hb8⟩
      rw [← HK2.out]
      have HA8 := Lib.hid (HA7.out.below hb8)
      have HS8 := Lib.hid (HS7.out.below hb8)
      have HW8 : Hid (Below w.heap.size w w8) := Lib.hid (HW7.out.trans (hb8.mono HW7.out.size))
      clear hb8
      go_wp2_with fail
      refine (count_any pa w.heap.size c (bn : Int) r capa _ _ w8 HA8.out.sh).mono ?_
      rintro e w9 ⟨rfl, hb9⟩
      have HS9 := Lib.hid (HS8.out.below hb9)
      have HW9 : Hid (Below w.heap.size w w9) := Lib.hid (HW8.out.trans (hb9.mono HW8.out.size))
      clear hb9
      go_wp2_with fail
      refine (count_any pb mb c' (bn : Int) r' capb _ _ w9 HS9.out.sh).mono ?_
      rintro e w10 ⟨rfl, hb10⟩
      rw [← HK3.out]
      have HW10 : Hid (Below w.heap.size w w10) := Lib.hid (HW9.out.trans (hb10.mono HW9.out.size))
      clear hb10
      go_wp2_with fail
      go_ret
      exact ⟨rfl, HW10.out⟩
    go_wp2_with fail
    go_loopw [14] (fun jv wr => ∃ (j c' cap' : Nat) (r' : Option Addr) (F : List (Th × Nat)) (M : List Th) (K : List (Th × Bool)), jv = .int .i64 j ∧ j ≤ R.length ∧ F.length = j ∧ Sh wr pa w.heap.size c (bn : Int) r cap E L (R.map (·.2)) ∧ Sh wr pb mb c' (bn : Int) r' cap' F M K ∧
      wr.ownsRow w.heap.size 33 6 (.slice ra R.length rcap) R.length (opC R) ∧ (∀ k, shOwn pa w.heap.size r E k → shOwn pb mb r' F k → False) ∧ (∀ k, shOwn pb mb r' F k → w.heap.size ≤ k) ∧ Below w.heap.size w wr ∧ Hid (K.map keyH = (rotL s ((R.map (·.2)).map keyH)).take j)) (fun jv _ => R.length - (RowKit.intOf jv).toNat)
    case atStart => exact ⟨0, 0, 0, none, [], [], [], rfl, by omega, rfl, HA.out, HB.out, HR.out, HD.out, HBL.out, HBW.out, Lib.hid (by simp)⟩
    case round =>
      obtain ⟨j, c', cap', r', F, M, K, rfl, hj, hFj, hsa, hsb, hrow, hdis, hlb, hbw2, hK⟩ := hrel
      have HA2 := Lib.hid hsa
      have HB2 := Lib.hid hsb
      have HR2 := Lib.hid hrow
      have HD2 := Lib.hid hdis
      have HLB2 := Lib.hid hlb
      have HBW2 := Lib.hid hbw2
      clear hsa hsb hrow hdis hlb hbw2
      by_cases hlt : j < R.length
      · have hii : (j : Int) < (R.length : Int) := by omega
        have hpos : 0 < R.length := by omega
        obtain ⟨g, rfl⟩ := HRG.out hpos
        obtain ⟨hsn, hse⟩ := HS.out hpos
        have hnz : ((R.length : Int) == 0) = false := by rw [beq_eq_false_iff_ne]; omega
        have hnu : IntKind.u64.wrap (R.length : Int) = (R.length : Int) := by rw [IntKind.wrap_u64]; omega
        obtain ⟨x, hx, hxe, hnew, hstep⟩ : ∃ x : Nat, ∃ hx : x < R.length, ((j : Int) + (s : Int)).tmod (R.length : Int) = (x : Int) ∧ at? F (R[x]'hx).2.1.v (R[x]'hx).2.1.u = none ∧ (∀ y : Th × Bool, keyH y = keyH (R[x]'hx).2 → (K ++ [y]).map keyH = (rotL s ((R.map (·.2)).map keyH)).take (j + 1)) := by
          refine ⟨rotI s R.length j, rotI_lt hlt hsn, ?_, ?_, fun y hy => ?_⟩
          · rw [← rotI_mod hlt hsn, Int.tmod_eq_emod_of_nonneg (by omega)]
            push_cast
            rfl
          · have h := order_new HA2.out.rel HB2.out.rel (s := s) (j := j) (by simpa using hlt) (by simpa using hsn) hK.out
            simpa using h
          · refine order_step (H := R.map (·.2)) (K := K) (s := s) (j := j) (by simpa using hlt) (by simpa using hsn) hK.out (x := y) ?_
            simpa using hy
        have HSTEP := Lib.hid hstep
        clear hstep
        obtain ⟨q0, q1, q2, q3, q4, q5⟩ := opC_at R x hx
        have a0 : wr.cell? ⟨g, x * 6, none⟩ = some (.int .i64 R[x].1) := (World.ownsRow.cellAt HR2.out (x * 6) (by omega)).trans (by rw [Nat.mul_comm x 6]; exact q0)
        have a1 : wr.cell? ⟨g, x * 6 + 1, none⟩ = some (.int .u32 R[x].2.1.v) := (World.ownsRow.cellAt HR2.out (x * 6 + 1) (by omega)).trans (by rw [Nat.mul_comm x 6]; exact q1)
        have a2 : wr.cell? ⟨g, x * 6 + 2, none⟩ = some (.int .u32 R[x].2.1.u) := (World.ownsRow.cellAt HR2.out (x * 6 + 2) (by omega)).trans (by rw [Nat.mul_comm x 6]; exact q2)
        have a3 : wr.cell? ⟨g, x * 6 + 3, none⟩ = some (.int .i64 R[x].2.1.size) := (World.ownsRow.cellAt HR2.out (x * 6 + 3) (by omega)).trans (by rw [Nat.mul_comm x 6]; exact q3)
        have a4 : wr.cell? ⟨g, x * 6 + 4, none⟩ = some (.int .i64 R[x].2.1.used) := (World.ownsRow.cellAt HR2.out (x * 6 + 4) (by omega)).trans (by rw [Nat.mul_comm x 6]; exact q4)
        have a5 : wr.cell? ⟨g, x * 6 + 5, none⟩ = some (.bool R[x].2.2) := (World.ownsRow.cellAt HR2.out (x * 6 + 5) (by omega)).trans (by rw [Nat.mul_comm x 6]; exact q5)
        have hxi : (x : Int) < (R.length : Int) := by omega
        have HX := Lib.hid hx
        clear q0 q1 q2 q3 q4 q5
        go_wp2_with fail
        have hba : Below wr.heap.size wr (wr.alloc (.cells #[.int .i64 R[x].1, .int .u32 R[x].2.1.v, .int .u32 R[x].2.1.u, .int .i64 R[x].2.1.size, .int .i64 R[x].2.1.used, .bool R[x].2.2] 33)) := (Below.refl _ _).alloc (Nat.le_refl _) _
        have HAA := Lib.hid (HA2.out.below hba)
        have HBB := Lib.hid (HB2.out.below hba)
        have HRA : Hid ((wr.alloc (.cells #[.int .i64 R[x].1, .int .u32 R[x].2.1.v, .int .u32 R[x].2.1.u, .int .i64 R[x].2.1.size, .int .i64 R[x].2.1.used, .bool R[x].2.2] 33)).ownsRow w.heap.size 33 6 (.slice (some ⟨g, 0, none⟩) R.length rcap) R.length (opC R)) := Lib.hid (owns_beside' (own := fun _ => False) HR2.out (Below.beside hba) (fun _ h => h.elim))
        have HBA : Hid (Below w.heap.size w (wr.alloc (.cells #[.int .i64 R[x].1, .int .u32 R[x].2.1.v, .int .u32 R[x].2.1.u, .int .i64 R[x].2.1.size, .int .i64 R[x].2.1.used, .bool R[x].2.2] 33))) := Lib.hid (HBW2.out.alloc HBW2.out.size _)
        have hrs := HRS.out R[x] (List.getElem_mem hx)
        generalize wr.alloc (.cells #[.int .i64 R[x].1, .int .u32 R[x].2.1.v, .int .u32 R[x].2.1.u, .int .i64 R[x].2.1.size, .int .i64 R[x].2.1.used, .bool R[x].2.2] 33) = wa at *
        clear a0 a1 a2 a3 a4 a5 hba
        refine (putSh_new HBB.out _ _ _ _ _ hnew (by omega) (by omega) (by omega)).mono ?_
        rintro e w3 ⟨rfl, t, cap3, r3, F3, M3, ht1, ht2, ht3, ht4, hF3, hs3, hb3, hg3⟩
        have HS3 := Lib.hid hs3
        have HA3 : Hid (Sh w3 pa w.heap.size c (bn : Int) r cap E L (R.map (·.2))) := Lib.hid (HAA.out.beside hb3 (fun k h1 h2 => HD2.out k h1 (HBB.out.own h2)))
        have HR3 : Hid (w3.ownsRow w.heap.size 33 6 (.slice (some ⟨g, 0, none⟩) R.length rcap) R.length (opC R)) := Lib.hid (owns_beside' HRA.out hb3 (fun k hk => HBB.out.apart HRA.out (by decide) k (HBB.out.own hk)))
        have HW3 : Hid (Below w.heap.size w w3) := Lib.hid (HBA.out.trans (hb3.below (fun k hk => HLB2.out k (HBB.out.own hk)) HBA.out.size))
        have HD3' : Hid (∀ k, shOwn pa w.heap.size r E k → shOwn pb mb r3 F3 k → False) := Lib.hid (fun k h1 h2 => by
          rcases hg3 k h2 with h | h
          · exact HD2.out k h1 h
          · have := HAA.out.lt h1; omega)
        have HL3' : Hid (∀ k, shOwn pb mb r3 F3 k → w.heap.size ≤ k) := Lib.hid (fun k h1 => by
          rcases hg3 k h1 with h | h
          · exact HLB2.out k h
          · have := HBA.out.size; omega)
        have HK3 : Hid ((K ++ [(t, R[x].2.2)]).map keyH = (rotL s ((R.map (·.2)).map keyH)).take (j + 1)) := Lib.hid (HSTEP.out (t, R[x].2.2) (by unfold keyH keyT; simp only [ht1, ht2, ht3, ht4]; rfl))
        clear hs3 hb3 hg3 ht1 ht2 ht3 ht4
        go_wp2_with fail
        go_roundw
        case rel => exact ⟨j + 1, c' + 1, cap3, r3, F3, M3, K ++ [(t, R[x].2.2)], by go_num, hlt, by omega, HA3.out, HS3.out, HR3.out, HD3'.out, HL3'.out, HW3.out, HK3⟩
        case measure => simp [RowKit.intOf]; omega
      · have hii : ¬ (j : Int) < (R.length : Int) := by omega
        go_wp2_with fail
        go_meet
        refine ⟨c', cap', r', F, M, K, HA2.out, HB2.out, HD2.out, HLB2.out, HBW2.out, ?_⟩
        rw [hK.out, List.take_of_length_le (by rw [(rotL_perm _ _).length_eq]; simp; omega)]
        exact (rotL_perm _ _).symm
  go_wp2_with fail
  go_loopw [11, 12] (fun mv iv wr => ∃ (k c cap : Nat) (r : Option Addr) (E : List (Th × Nat)) (L : List Th) (R : List (Int × (Th × Bool))), iv = .int .i64 k ∧ k ≤ l.length ∧ k ≤ 60 ∧ R.length ≤ k ∧ Sh wr pa w.heap.size c (bn : Int) r cap E L (R.map (·.2)) ∧ Sh wr pb mb 0 (bn : Int) none 0 [] [] [] ∧
    wr.ownsRow w.heap.size 33 6 mv R.length (opC R) ∧ (∀ k, shOwn pa w.heap.size r E k → shOwn pb mb none [] k → False) ∧ (∀ k, shOwn pa w.heap.size r E k → w.heap.size ≤ k) ∧ Below w.heap.size w wr ∧ R.length ≤ E.length ∧ (∀ x ∈ R, 0 ≤ x.2.1.size ∧ x.2.1.size ≤ 1000)) (fun _ iv _ => l.length - (RowKit.intOf iv).toNat)
  case atStart => exact ⟨0, 0, 0, none, [], [], [], rfl, by omega, by omega, by simp, HSA3.out, HSB3.out, World.ownsRow_nil _ _ _ _, HD3.out.1, HD3.out.2.1, HB3.out, by simp, fun _ h => by cases h⟩
  case round =>
    obtain ⟨k, c, cap, r, E, L, R, rfl, hkl, hk60, hRk, hsa, hsb, hrow, hdis, hlow, hbw, hRE, hrs⟩ := hrel
    have HA := Lib.hid hsa
    have HB := Lib.hid hsb
    have HR := Lib.hid hrow
    have HD := Lib.hid hdis
    have HW := Lib.hid hlow
    have HBW := Lib.hid hbw
    have HRS := Lib.hid hrs
    clear hsa hsb hrow hdis hlow hbw hrs
    by_cases hlt : k < l.length
    · have hii : (k : Int) < (l.length : Int) := by omega
      by_cases h60 : k < 60
      · have hi1 : (k : Int) < 60 := by omega
        obtain ⟨g, q, hx⟩ : ∃ g q, av = some ⟨g, q, none⟩ := by
          cases hav : av with
          | none => have := HL3.out hav; omega
          | some x =>
            obtain ⟨g, q, s⟩ := x
            have := World.cell?_spot (HL4.out _ hav 0 (by omega)).c0
            have hs : s = none := by simpa [Addr.add] using this
            exact ⟨g, q, by rw [hs]⟩
        have ho := HL4.out _ hx k hlt
        subst hx
        obtain ⟨o, hoo⟩ : ∃ o, l[k] = o := ⟨_, rfl⟩
        rw [hoo] at ho
        clear hoo
        obtain ⟨kind, vv, uu, sz, us, cl⟩ := o
        obtain ⟨o0, o1, o2, o3, o4, o5, -, -⟩ := ho
        have key : ∀ {q : Addr} {z : Value}, w.cell? q = some z → wr.cell? q = some z := fun {q z} hq => (HBW.out.cell (World.block_lt_of_cell? w _ hq)).trans hq
        replace o0 : wr.cell? ⟨g, q + k * 6, none⟩ = some (.int .i64 kind) := key (by rw [← Addr.add_lit]; exact o0)
        replace o1 : wr.cell? ⟨g, q + k * 6 + 1, none⟩ = some (.int .u32 vv) := key (by rw [Nat.add_assoc, ← Addr.add_lit]; exact o1)
        replace o2 : wr.cell? ⟨g, q + k * 6 + 2, none⟩ = some (.int .u32 uu) := key (by rw [Nat.add_assoc, ← Addr.add_lit]; exact o2)
        replace o3 : wr.cell? ⟨g, q + k * 6 + 3, none⟩ = some (.int .i64 sz) := key (by rw [Nat.add_assoc, ← Addr.add_lit]; exact o3)
        replace o4 : wr.cell? ⟨g, q + k * 6 + 4, none⟩ = some (.int .i64 us) := key (by rw [Nat.add_assoc, ← Addr.add_lit]; exact o4)
        replace o5 : wr.cell? ⟨g, q + k * 6 + 5, none⟩ = some (.bool cl) := key (by rw [Nat.add_assoc, ← Addr.add_lit]; exact o5)
        clear key
        obtain ⟨n, hn, en⟩ : ∃ a : Nat, a < 200 ∧ wrap64 ((IntKind.u64.wrap sz).tmod 200) = (a : Int) := modN 200 (by decide) (by decide) sz
        go_wp2_with fail
        generalize wrap64 ((IntKind.u64.wrap sz).tmod 200) = zn at *
        subst en
        have hba : Below wr.heap.size wr (wr.alloc (.cells #[.int .i64 kind, .int .u32 vv, .int .u32 uu, .int .i64 (n : Int), .int .i64 us, .bool cl] 33)) := (Below.refl _ _).alloc (Nat.le_refl _) _
        have HAA := Lib.hid (HA.out.below hba)
        have HBB := Lib.hid (HB.out.below hba)
        have HRA : Hid ((wr.alloc (.cells #[.int .i64 kind, .int .u32 vv, .int .u32 uu, .int .i64 (n : Int), .int .i64 us, .bool cl] 33)).ownsRow w.heap.size 33 6 u11 R.length (opC R)) := Lib.hid (owns_beside' (own := fun _ => False) HR.out (Below.beside hba) (fun _ h => h.elim))
        have HOA := Lib.hid (heap_alloc_new wr (.cells #[.int .i64 kind, .int .u32 vv, .int .u32 uu, .int .i64 (n : Int), .int .i64 us, .bool cl] 33))
        have HNO : Hid (¬ shOwn pa w.heap.size r E wr.heap.size) := Lib.hid (fun h => by have := HA.out.lt h; omega)
        have HBA : Hid (Below w.heap.size w (wr.alloc (.cells #[.int .i64 kind, .int .u32 vv, .int .u32 uu, .int .i64 (n : Int), .int .i64 us, .bool cl] 33))) := Lib.hid (HBW.out.alloc HBW.out.size _)
        generalize wr.alloc (.cells #[.int .i64 kind, .int .u32 vv, .int .u32 uu, .int .i64 (n : Int), .int .i64 us, .bool cl] 33) = wa at *
        clear o0 o1 o2 o3 o4 o5 hba
        have hEl : E.length = R.length := by have := HAA.out.rel.len; simpa using this.symm
        cases hq : at? E vv uu with
        | none =>
          refine (putSh_new HAA.out vv uu (n : Int) us cl hq (by omega) (by omega) (by omega)).mono ?_
          rintro e w3 ⟨rfl, t, cap', r', E', L', rfl, rfl, htn, rfl, hE', hs3, hb3, hg3⟩
          have HS3 := Lib.hid hs3
          have HO3 := At.beside HOA.out hb3 (fun h => HNO.out (HAA.out.own h))
          have HW3 : Hid (Below w.heap.size w w3) := Lib.hid (HBA.out.trans (hb3.below (fun k hk => HW.out k (HAA.out.own hk)) HBA.out.size))
          have HB3 : Hid (Sh w3 pb mb 0 (bn : Int) none 0 [] [] []) := Lib.hid (HBB.out.beside hb3 (fun k h1 h2 => HD.out k (HAA.out.own h2) h1))
          have HR3 : Hid (w3.ownsRow w.heap.size 33 6 u11 R.length (opC R)) := Lib.hid (owns_beside' HRA.out hb3 (fun k hk => HAA.out.apart HRA.out (by decide) k (HAA.out.own hk)))
          have HD3 : Hid (∀ k, shOwn pa w.heap.size r' E' k → shOwn pb mb none [] k → False) := Lib.hid (fun k h1 h2 => by
            rcases hg3 k h1 with h | h
            · exact HD.out k h h2
            · have := HBB.out.lt h2; omega)
          have HL3 : Hid (∀ k, shOwn pa w.heap.size r' E' k → w.heap.size ≤ k) := Lib.hid (fun k h1 => by
            rcases hg3 k h1 with h | h
            · exact HW.out k h
            · have := HBA.out.size; omega)
          have x0 := HO3.cell 0 (.int .i64 kind) rfl
          have x1 := HO3.cell 1 (.int .u32 t.v) rfl
          have x2 := HO3.cell 2 (.int .u32 t.u) rfl
          have x3 := HO3.cell 3 (.int .i64 (n : Int)) rfl
          have x4 := HO3.cell 4 (.int .i64 t.used) rfl
          have x5 := HO3.cell 5 (.bool cl) rfl
          have HTN := Lib.hid htn
          have hsz : w.heap.size ≤ w3.heap.size := HW3.out.size
          have hRn : R.length ≤ 1000000 := by omega
          clear hs3 hb3 hg3 htn hq HO3
          go_wp2_with (at_builtin
                       refine appM rfl (.tmp 79) (.tmp 81) rfl rfl rfl (by simp) HR3.out hsz hRn ?_
                       intro v' w4 ho4 hb4
                       have HO4 := Lib.hid ho4
                       have HB4 := Lib.hid hb4
                       clear ho4 hb4)
          have HW4 : Hid (Below w.heap.size w w4) := Lib.hid (HW3.out.trans (HB4.out.below (fun k hk => (World.ownsRow.lt HR3.out k hk).1) hsz))
          have HS4 := Lib.hid (HS3.out.beside HB4.out (fun k hk e => HS3.out.apart HR3.out (by decide) k hk e))
          have HB5 := Lib.hid (HB3.out.beside HB4.out (fun k hk e => HB3.out.apart HR3.out (by decide) k hk e))
          go_roundw
          case rel =>
            refine ⟨k + 1, c + 1, cap', r', E', L', R ++ [(kind, (t, cl))], by go_num, hlt, by omega, by simp; omega, by rw [List.map_append]; exact HS4.out, HB5.out, ?_, HD3.out, HL3.out, HW4.out, by simp; omega, ?_⟩
            · rw [opC_snoc, List.length_append]
              simp only [HTN.out]
              exact HO4.out
            · intro x hx
              rcases List.mem_append.1 hx with hx | hx
              · exact HRS.out x hx
              · obtain rfl := List.mem_singleton.1 hx
                have := HTN.out
                simp only
                omega
          case measure => simp [RowKit.intOf]; omega
        | some iy =>
          obtain ⟨i, y⟩ := iy
          refine (putSh_twice HAA.out vv uu (n : Int) us cl hq (by omega) (by omega)).mono ?_
          rintro e w3 ⟨rfl, hb3⟩
          have HS3 := Lib.hid (HAA.out.below hb3)
          have HB3 := Lib.hid (HBB.out.below hb3)
          have HR3 : Hid (w3.ownsRow w.heap.size 33 6 u11 R.length (opC R)) := Lib.hid (owns_beside' (own := fun _ => False) HRA.out (Below.beside hb3) (fun _ h => h.elim))
          have HW3 : Hid (Below w.heap.size w w3) := Lib.hid (HBA.out.trans (hb3.mono HBA.out.size))
          clear hb3 hq
          go_wp2_with fail
          go_roundw
          case rel => exact ⟨k + 1, c, cap, r, E, L, R, by go_num, hlt, by omega, by omega, HS3.out, HB3.out, HR3.out, HD.out, HW.out, HW3.out, hRE, HRS.out⟩
          case measure => simp [RowKit.intOf]; omega
      · have hi1 : ¬ (k : Int) < 60 := by omega
        go_wp2_with fail
        go_meet
        exact ⟨c, cap, r, E, L, R, by omega, HA.out, HB.out, HR.out, HD.out, HW.out, HBW.out, hRE, HRS.out⟩
    · have hii : ¬ (k : Int) < (l.length : Int) := by omega
      go_wp2_with fail
      go_meet
      exact ⟨c, cap, r, E, L, R, by omega, HA.out, HB.out, HR.out, HD.out, HW.out, HBW.out, hRE, HRS.out⟩
end shelfOrder
end Go.Proofs.Ythmnbjdmbajhkaa
