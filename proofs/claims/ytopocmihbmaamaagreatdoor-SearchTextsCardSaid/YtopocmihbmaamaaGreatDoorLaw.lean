/-
  SearchTexts: the walk.
-/
import Derived.Test.YtopocmihbmaamaaGreatDoorLook
import Derived.Deep.CutBlock
import Derived.Deep.CutRange
import Derived.Deep.DeepCutAuto
import Derived.Deep.RegionHeld
namespace Go.Proofs.YtopocmihbmaamaaGreatDoor
set_option linter.unusedVariables false
open Go.RowKit

theorem cut_at (x : Int) (m : Nat) (hm : m ≤ 2000) : ∃ a : Nat, a ≤ m ∧ wrap64 ((IntKind.u64.wrap x).tmod ((m : Int) + 1)) = (a : Int) := by
  have h0 : 0 ≤ IntKind.u64.wrap x := by rw [IntKind.wrap_u64]; exact Int.emod_nonneg _ (by decide)
  generalize IntKind.u64.wrap x = y at *
  rw [Int.tmod_eq_emod_of_nonneg h0]
  have h1 := Int.emod_nonneg y (show ((m : Int) + 1) ≠ 0 by omega)
  have h2 := Int.emod_lt_of_pos y (show (0 : Int) < (m : Int) + 1 by omega)
  generalize y % ((m : Int) + 1) = z at *
  exact ⟨z.toNat, by omega, by unfold wrap64; omega⟩
theorem conv_part {w : World} {a : Option Addr} {len cap : Nat} {l : Tx} (h : RowB w (.slice a len cap) (l.map UInt8.toNat)) (hl : l.length = len) (lo hi : Nat) (h1 : lo ≤ hi) (h2 : hi ≤ l.length) :
    (convert 22 9 (.slice (Option.map (fun x => x.add lo) a) (hi - lo) (cap - lo))).run Tryz.prog w = .ok (.string (strL ((l.take hi).drop lo))) w ∧ (lo = cap → (convert 22 9 (.slice a (hi - lo) (cap - lo))).run Tryz.prog w = .ok (.string (strL ((l.take hi).drop lo))) w) := by
  obtain ⟨a', len', cap', e, k1, k2, k3, k4, k5, k6⟩ := h
  simp only [Value.slice.injEq] at e
  obtain ⟨rfl, rfl, rfl⟩ := e
  have hlm : (((l.take hi).drop lo).map UInt8.toNat).length = hi - lo := by simp; omega
  constructor
  · rw [← strN_nat]
    refine run_str ⟨_, _, _, rfl, hlm, by omega, by omega, fun n hn => ?_, fun e => ?_, fun x hx i hi2 => ?_⟩
    · obtain ⟨b, _, rfl⟩ := List.mem_map.1 hn
      exact b.toNat_lt
    · have := k5 (by cases a <;> simp_all)
      omega
    · obtain ⟨y, hy, rfl⟩ := Option.map_eq_some_iff.1 hx
      have hi3 : lo + i < (l.map UInt8.toNat).length := by rw [hlm] at hi2; simp; omega
      have := k6 y hy (lo + i) hi3
      rw [Addr.add_add] at *
      rw [this]
      simp
  · intro hc
    have : hi = lo := by omega
    subst this
    rw [← strN_nat]
    refine run_str ⟨_, _, _, rfl, hlm, by omega, by omega, fun n hn => ?_, fun e => ?_, fun x hx i hi2 => ?_⟩
    · obtain ⟨b, _, rfl⟩ := List.mem_map.1 hn
      exact b.toNat_lt
    · omega
    · rw [hlm] at hi2; omega
set_option maxRecDepth 100000 in
set_option maxHeartbeats 8000000 in
theorem texts_walk (w : World) (v : Value) (l : Tx) (hr : RowB w v (l.map UInt8.toNat)) (frm tw : Int) (s : Tx) (hm : MaxV w) (hl : l.length ≤ 2000) (hs : s.length ≤ 100) :
    Calls Tryz.prog 3 #[v, .int .i64 frm, .int .i64 tw, .string (strL s)] w fun e w' => e = .returned (.bool true) ∧ Below w.heap.size w w' := by
  obtain ⟨a, len, cap, rfl, hlen, hcap, -⟩ := id hr
  obtain rfl : l.length = len := by rw [← hlen]; simp
  have HR := Lib.hid hr
  have HM := Lib.hid hm
  obtain ⟨n1, hn1, hm1⟩ := cut_at frm l.length hl
  obtain ⟨n2, hn2, hm2⟩ := cut_at tw l.length hl
  have hsz : (strL s).size = s.length := rfl
  have g1 : ¬ (2000 : Int) < (l.length : Int) := by omega
  have g2 : ¬ (100 : Int) < (s.length : Int) := by omega
  obtain ⟨lo, hlo⟩ : ∃ lo : Nat, min (n1 : Int) (n2 : Int) = (lo : Int) := ⟨min n1 n2, by omega⟩
  obtain ⟨hi, hhi⟩ : ∃ hi : Nat, max (n1 : Int) (n2 : Int) = (hi : Int) := ⟨max n1 n2, by omega⟩
  have hlh : lo ≤ hi := by omega
  have hhl : hi ≤ l.length := by omega
  have hlhz : (lo : Int) ≤ (hi : Int) := by omega
  have hhc : (hi : Int) ≤ (cap : Int) := by omega
  have HPS := Lib.hid (part_stands l lo hi hlh hhl)
  clear hr hm hlen hn1 hn2
  go_enter Tryz.func3, Tryz.ntmps3
  go_upto_region 6 with (first | go_region)
  obtain ⟨W, hW, hL, hb⟩ : ∃ W, W = (w.alloc (.cells (shownC (l.length : Nat) (.slice a l.length cap) true) 27)).drew ∧ W.heap[w.heap.size]? = some (.cells (shownC (l.length : Nat) (.slice a l.length cap) true) 27 (0, 0)) ∧ Below w.heap.size w W :=
    ⟨_, rfl, heap_alloc_new w _, ((Below.refl _ _).alloc (Nat.le_refl _) _).drew⟩
  unfold shownC at hW
  rw [← hW]
  clear hW
  rw [hm1, hm2]
  clear hm1 hm2
  have HRW := Lib.hid (HR.out.below hb)
  have HMW := Lib.hid (HM.out.below hb)
  have HB := Lib.hid hb
  have hkp : ∀ W2, Below W.heap.size W W2 → (fun w' : World => w'.cell? ⟨w.heap.size, 0, none⟩ = some (.int .u32 0) ∧ w'.cell? ⟨w.heap.size, 1, none⟩ = some (.int .u32 0) ∧ w'.cell? ⟨w.heap.size, 2, none⟩ = some (.int .u32 0) ∧ w'.cell? ⟨w.heap.size, 3, none⟩ = some (.int .u32 0) ∧ w'.cell? ⟨w.heap.size, 4, none⟩ = some (.slice none 0 0) ∧ w'.cell? ⟨w.heap.size, 5, none⟩ = some (.int .i64 (l.length : Nat)) ∧ w'.cell? ⟨w.heap.size, 6, none⟩ = some (.slice a l.length cap) ∧ w'.cell? ⟨w.heap.size, 7, none⟩ = some (.bool true)) W2 := fun W2 h2 => by
    have gL := (h2.block _ (Array.getElem?_eq_some_iff.1 hL).1).trans hL
    have fl := fun j => cell_of_row W2 w.heap.size j _ _ _ gL
    exact ⟨fl 0, fl 1, fl 2, fl 3, fl 4, fl 5, fl 6, fl 7⟩
  have HKP := Lib.hid hkp
  obtain ⟨hcv, hcv2⟩ := conv_part HRW.out rfl lo hi hlh hhl
  have hpl : ((l.take hi).drop lo).length ≤ 2000 := by simp; omega
  generalize (l.take hi).drop lo = part at *
  have H1 : Hid (Lib.contains (foldL l) (foldL part) = true) := HPS
  have H2 : Hid (Lib.contains (foldL l) (foldL (greatL part)) = true) := Lib.hid (by rw [fold_great]; exact HPS.out)
  have H3 : Hid (Lib.contains (foldL l) (foldL (foldL part)) = true) := Lib.hid (by rw [fold_fold]; exact HPS.out)
  have HG := Lib.hid (fun X => greatN_any (strL part) (by show part.length ≤ _; omega) X)
  have HF := Lib.hid (fun X => foldN_any (strL part) (by show part.length ≤ _; omega) X)
  have e0 : (strL part).data.toList = part := by simp [strL]
  rw [e0] at HG HF
  clear hb hL hkp HPS e0
  have HZ : Hid (Below W.heap.size W W.drew) := Lib.hid ((Below.refl _ _).drew)
  have k0 := HKP.out _ HZ.out
  go_cut [13] (fun u wx => u = .string (strL part) ∧ wx = W)
  case first =>
    by_cases hlc : lo = cap
    · have hcv3 := hcv2 hlc
      clear hcv2 hcv
      subst hlc
      rw [Nat.sub_self] at hcv3
      have hcv := hcv3
      clear hcv3
      go_wp2_with fail
      go_meet
      exact ⟨rfl, rfl⟩
    · have hlc2 : ¬ (cap = lo) := fun e => hlc e.symm
      clear hcv2
      go_wp2_with fail
      go_meet
      exact ⟨rfl, rfl⟩
  case rest =>
    obtain ⟨rfl, hWc⟩ := hcut
    have hWc := hWc.symm
    subst hWc
    clear hcv hcv2 hlh hhl hlhz hhc hlo hhi
    go_upto_region 7 with (fail)
    go_cut [78] (fun u wx => u = .bool false ∧ Below W.heap.size W wx)
    case first =>
      as_aux_lemma =>
        go_region_held3 (fun w' => w'.cell? ⟨w.heap.size, 0, none⟩ = some (.int .u32 0) ∧ w'.cell? ⟨w.heap.size, 1, none⟩ = some (.int .u32 0) ∧ w'.cell? ⟨w.heap.size, 2, none⟩ = some (.int .u32 0) ∧ w'.cell? ⟨w.heap.size, 3, none⟩ = some (.int .u32 0) ∧ w'.cell? ⟨w.heap.size, 4, none⟩ = some (.slice none 0 0) ∧ w'.cell? ⟨w.heap.size, 5, none⟩ = some (.int .i64 (l.length : Nat)) ∧ w'.cell? ⟨w.heap.size, 6, none⟩ = some (.slice a l.length cap) ∧ w'.cell? ⟨w.heap.size, 7, none⟩ = some (.bool true))
          (first | with_reducible exact kb | with_reducible exact k0 | go_keep)
          (first
            | (go_at_call 5; refine (matchT (l.length : Nat) _ l (foldL part) _ (HRW.out.below He.out) (by omega) (by first | omega | (simp only [foldL, List.length_map]; omega)) (HMW.out.below He.out)).mono ?_; rintro e wf ⟨rfl, hb⟩; rw [H3.out]; have Hf := Lib.hid (He.out.trans (hb.mono He.out.size)); have kb := HKP.out _ Hf.out; clear hb)
            | (go_at_call 5; refine (matchT (l.length : Nat) _ l (greatL part) _ (HRW.out.below Hc.out) (by omega) (by first | omega | (simp only [greatL, List.length_map]; omega)) (HMW.out.below Hc.out)).mono ?_; rintro e wd ⟨rfl, hb⟩; rw [H2.out]; have Hd := Lib.hid (Hc.out.trans (hb.mono Hc.out.size)); have kb := HKP.out _ Hd.out; clear hb)
            | (go_at_call 5; refine (matchT (l.length : Nat) _ l part _ (HRW.out.below Ha.out) (by omega) (by omega) (HMW.out.below Ha.out)).mono ?_; rintro e wb ⟨rfl, hb⟩; rw [H1.out]; have Hb := Lib.hid (Ha.out.trans (hb.mono Ha.out.size)); have kb := HKP.out _ Hb.out; clear hb)
            | (go_at_call 4; refine (awake_any _).mono ?_; rintro e wa ⟨rfl, hb⟩; have Ha := Lib.hid (HZ.out.trans (hb.mono HZ.out.size)); have kb := HKP.out _ Ha.out; clear hb)
            | (go_at_call 6; refine (HG.out _).mono ?_; rintro e wc ⟨rfl, hb⟩; have Hc := Lib.hid (Hb.out.trans (hb.mono Hb.out.size)); have kb := HKP.out _ Hc.out; clear hb)
            | (go_at_call 7; refine (HF.out _).mono ?_; rintro e we ⟨rfl, hb⟩; have He := Lib.hid (Hd.out.trans (hb.mono Hd.out.size)); have kb := HKP.out _ He.out; clear hb))
        all_goals
          go_wp2_with fail
          go_meet
          exact ⟨rfl, Hf.out⟩
    case rest =>
      obtain ⟨rfl, hbc⟩ := hcut
      rename World => wo
      have HC := Lib.hid hbc
      have HRC := Lib.hid (HRW.out.below hbc)
      have HMC := Lib.hid (HMW.out.below hbc)
      have HKC : Hid (∀ W2, Below wo.heap.size wo W2 → (fun w' : World => w'.cell? ⟨w.heap.size, 0, none⟩ = some (.int .u32 0) ∧ w'.cell? ⟨w.heap.size, 1, none⟩ = some (.int .u32 0) ∧ w'.cell? ⟨w.heap.size, 2, none⟩ = some (.int .u32 0) ∧ w'.cell? ⟨w.heap.size, 3, none⟩ = some (.int .u32 0) ∧ w'.cell? ⟨w.heap.size, 4, none⟩ = some (.slice none 0 0) ∧ w'.cell? ⟨w.heap.size, 5, none⟩ = some (.int .i64 (l.length : Nat)) ∧ w'.cell? ⟨w.heap.size, 6, none⟩ = some (.slice a l.length cap) ∧ w'.cell? ⟨w.heap.size, 7, none⟩ = some (.bool true)) W2) := Lib.hid (fun W2 h2 => HKP.out _ (HC.out.trans (h2.mono HC.out.size)))
      have hsv : ∀ W2, Below wo.heap.size wo W2 → (convert 22 9 (.slice a l.length cap)).run Tryz.prog W2 = .ok (.string (strL l)) W2 := fun W2 h2 => by
        have := run_str (HRC.out.below h2)
        rwa [strN_nat] at this
      have HSV := Lib.hid hsv
      have HFS := Lib.hid (fun X => foldN_any (strL s) (by show s.length ≤ _; omega) X)
      have HFL := Lib.hid (fun X => foldN_any (strL l) (by show l.length ≤ _; omega) X)
      have e1 : (strL s).data.toList = s := by simp [strL]
      have e2 : (strL l).data.toList = l := by simp [strL]
      rw [e1] at HFS
      rw [e2] at HFL
      have HZC : Hid (Below wo.heap.size wo wo.drew) := Lib.hid ((Below.refl _ _).drew)
      have k1 := HZC.out
      clear hbc e1 e2 HG HF H1 H2 H3 k0 HZ
      go_upto_region 10 with (fail)
      go_cut [15, 16] (fun u u2 wx => u = .string (strL (foldL s)) ∧ u2 = .string (strL (foldL l)) ∧ Below wo.heap.size wo wx)
      case first =>
        refine wp_region_held_drew (S := fun w' => Below wo.heap.size wo w') (by kernel_rfl) k1 (fun hHeld => ?_)
        refine wpAnyH_take (i := 0) (oi := ⟨_, _, _, _, _, _⟩) (v := ?_) rfl (by kernel_rfl) (by kernel_rfl) (by kernel_rfl) (fun _ _ _ h => h) (Or.inl ⟨by rfl, ?_⟩) (by assumption) ?_
        rotate_left
        · intro w hSw; (try dsimp only at hSw); go_simp <;> with_reducible rfl
        simp only [Act.put, List.setIfInBounds_toArray, List.set_cons_zero, List.set_cons_succ]
        refine wpAnyH_take (i := 2) (oi := ⟨_, _, _, _, _, _⟩) (v := ?_) rfl (by kernel_rfl) (by kernel_rfl) (by kernel_rfl) (fun _ _ _ h => h) (Or.inl ⟨by rfl, ?_⟩) (by assumption) ?_
        rotate_left
        · intro w hSw; (try dsimp only at hSw); go_simp <;> with_reducible rfl
        simp only [Act.put, List.setIfInBounds_toArray, List.set_cons_zero, List.set_cons_succ]
        refine wpAnyH_take (i := 3) (oi := ⟨_, _, _, _, _, _⟩) (v := .string (strL l)) rfl (by kernel_rfl) (by kernel_rfl) (by kernel_rfl) (fun _ _ _ h => h) (Or.inl ⟨by rfl, ?_⟩) (by assumption) ?_
        · intro w hSw
          have hq := HSV.out w hSw
          go_simp
        simp only [Act.put, List.setIfInBounds_toArray, List.set_cons_zero, List.set_cons_succ]
        refine wpAnyH_ready (rs := [1]) (by kernel_rfl) (by simp) ?_
        refine AllReadyH.cons (o := ⟨_, _, _, _, _, _⟩) rfl (fun K hK => ?_) AllReadyH.nil
        go_simp
        go_wp2_with (go_at_call 7; refine (HFS.out _).mono ?_; rintro e wi ⟨rfl, hb⟩; have Hi := Lib.hid (HZC.out.trans (hb.mono HZC.out.size)); clear hb)
        refine hK.out _ _ Hi.out (fun hHeld2 => ?_)
        clear hK K
        refine wpAnyH_ready (rs := [4]) (by kernel_rfl) (by simp) ?_
        refine AllReadyH.cons (o := ⟨_, _, _, _, _, _⟩) rfl (fun K hK => ?_) AllReadyH.nil
        go_simp
        go_wp2_with (go_at_call 7; refine (HFL.out _).mono ?_; rintro e wj ⟨rfl, hb⟩; have Hj := Lib.hid (Hi.out.trans (hb.mono Hi.out.size)); clear hb)
        refine hK.out _ _ Hj.out (fun hHeld3 => ?_)
        clear hK K
        refine wpAnyH_take (i := 5) (oi := ⟨_, _, _, _, _, _⟩) (v := ?_) rfl (by kernel_rfl) (by kernel_rfl) (by kernel_rfl) (fun _ _ _ h => h) (Or.inl ⟨by rfl, ?_⟩) (by assumption) ?_
        rotate_left
        · intro w hSw; (try dsimp only at hSw); go_simp <;> with_reducible rfl
        simp only [Act.put, List.setIfInBounds_toArray, List.set_cons_zero, List.set_cons_succ]
        refine wpAnyH_take (i := 6) (oi := ⟨_, _, _, _, _, _⟩) (v := ?_) rfl (by kernel_rfl) (by kernel_rfl) (by kernel_rfl) (fun _ _ _ h => h) (Or.inl ⟨by rfl, ?_⟩) (by assumption) ?_
        rotate_left
        · intro w hSw; (try dsimp only at hSw); go_simp <;> with_reducible rfl
        simp only [Act.put, List.setIfInBounds_toArray, List.set_cons_zero, List.set_cons_succ]
        refine wpAnyH_done (by kernel_rfl) ?_ _
        go_wp2_with fail
        go_meet
        exact ⟨rfl, rfl, Hj.out⟩
      case rest =>
        obtain ⟨rfl, rfl, hbd⟩ := hcut
        have HD := Lib.hid hbd
        obtain ⟨A, hA, hAn, hAl⟩ : ∃ A, strL (foldL l) = A ∧ A.size = l.length ∧ A.toList = foldL l := ⟨_, rfl, by show (foldL l).length = _; simp [foldL], by simp [strL]⟩
        obtain ⟨B, hB, hBn, hBl⟩ : ∃ B, strL (foldL s) = B ∧ B.size = s.length ∧ B.toList = foldL s := ⟨_, rfl, by show (foldL s).length = _; simp [foldL], by simp [strL]⟩
        have hfl : (foldL l).length = l.length := by simp [foldL]
        have hfs : (foldL s).length = s.length := by simp [foldL]
        have hex : ∀ k, k + s.length ≤ l.length → A.extract k (k + s.length) = strL (((foldL l).drop k).take s.length) := fun k hk => by
          subst hA
          apply ByteArray.ext
          simp [strL]
        rw [hA, hB]
        have HAL := Lib.hid hAl
        have HBL := Lib.hid hBl
        have HA := Lib.hid hA
        have HEX := Lib.hid hex
        have HFL2 := Lib.hid hfl
        have HFS2 := Lib.hid hfs
        have HS := Lib.hid hs
        have HL := Lib.hid hl
        clear hAl hBl hA hB hbd hfl hfs HFS HFL HSV hsv k1 HZC hex
        go_wp2_with fail
        generalize hn : l.length = n at *
        generalize hmm : s.length = m at *
        have HN := Lib.hid hn
        have HM2 := Lib.hid hmm
        clear hn hmm
        go_loopw [14, 17] (fun b i wr => ∃ k : Nat, b = .bool (standsK (foldL l) (foldL s) k) ∧ i = .int .i64 (k : Nat) ∧ (∀ j, j < k → j + m ≤ n) ∧ Below wo.heap.size wo wr) (fun b i _ => n + 1 - (RowKit.intOf i).toNat)
        case atStart => exact ⟨0, by simp [standsK], rfl, fun j hj => by omega, HD.out⟩
        case round =>
          obtain ⟨k, rfl, rfl, hk, hbw⟩ := hrel
          have HBW := Lib.hid hbw
          have HK := Lib.hid hk
          have hkm0 : k + m ≤ n + 1 ∨ k = 0 := by
            cases k with
            | zero => exact .inr rfl
            | succ j => have := hk j (by omega); omega
          have hkm : (k : Int) + (m : Int) ≤ 9223372036854775807 := by omega
          have hk1 : (k : Int) + 1 ≤ 9223372036854775807 := by omega
          clear hbw hk hkm0
          by_cases hkn : k + m ≤ n
          · have hkz : (k : Int) + (m : Int) ≤ (n : Int) := by omega
            have hkk : (k : Int) ≤ (k : Int) + (m : Int) := by omega
            have HNEXT := Lib.hid (standsK_next (foldL l) (foldL s) k)
            have hx := HEX.out k hkn
            cases hst : standsK (foldL l) (foldL s) k
            · go_wp2_with fail
              go_roundw
              case rel => exact ⟨k + 1, by rw [HNEXT.out, hst, HBL.out, HFS2.out]; simp [strL], by go_num, fun j hj => by (have := HK.out j); omega, HBW.out⟩
              case measure => simp [intOf]; omega
            · go_wp2_with fail
              go_roundw
              case rel => exact ⟨k + 1, by rw [HNEXT.out, hst]; rfl, by go_num, fun j hj => by (have := HK.out j); omega, HBW.out⟩
              case measure => simp [intOf]; omega
          · have hkz : ¬ (k : Int) + (m : Int) ≤ (n : Int) := by omega
            have hall : standsK (foldL l) (foldL s) k = Lib.contains (foldL l) (foldL s) := standsK_all _ _ k (by rw [HFL2.out, HFS2.out]; omega) (fun j hj => by rw [HFL2.out, HFS2.out]; exact HK.out j hj)
            rw [hall]
            clear hall
            obtain ⟨c, hc⟩ : ∃ c, Lib.contains (foldL l) (foldL s) = c := ⟨_, rfl⟩
            have HCC := Lib.hid hc
            rw [hc]
            clear hc
            have hkb := HKC.out _ HBW.out
            obtain ⟨x0, x1, x2, x3, x4, x5, x6, x7⟩ := hkb
            have HRX := Lib.hid (HRC.out.below HBW.out)
            have HMX := Lib.hid (HMC.out.below HBW.out)
            have HG3 : Hid (∀ W, Calls Tryz.prog 5 #[.agg (keyC 13 ⟨#[]⟩ ((n : Int) + 1)), .agg (shownC (n : Nat) (.slice a n cap) true)] W fun e w' => e = .returned (.bool true) ∧ Below W.heap.size W w') := Lib.hid fun W => by
              have h1 := HL.out
              have := matchS (n : Nat) (n + 1) (by omega) a n cap true W
              rw [show decide ((n : Int) < ((n + 1 : Nat) : Int)) = true by simp; omega] at this
              exact this
            have HG2 : Hid (∀ W, Calls Tryz.prog 5 #[.agg (keyC 12 ⟨#[]⟩ (n : Nat)), .agg (shownC (n : Nat) (.slice a n cap) true)] W fun e w' => e = .returned (.bool false) ∧ Below W.heap.size W w') := Lib.hid fun W => by
              have h1 := HL.out
              have := matchL (n : Nat) n (by omega) a n cap true W
              rw [show decide ((n : Int) < (n : Int)) = false by simp] at this
              exact this
            have HG1 := Lib.hid (matchT (n : Nat) _ l s _ HRX.out (by have h1 := HN.out; have h2 := HL.out; omega) (by have h1 := HM2.out; have h2 := HS.out; omega) HMX.out)
            cases c
            all_goals
              go_wp2_with fail
              refine (HG1.out).mono ?_
              rintro e w2 ⟨rfl, hb⟩
              rw [HCC.out]
              have H2 := Lib.hid (HBW.out.trans (hb.mono HBW.out.size))
              have hkb := HKC.out _ H2.out
              obtain ⟨x0, x1, x2, x3, x4, x5, x6, x7⟩ := hkb
              clear hb
              go_wp2_with fail
              refine (HG2.out _).mono ?_
              rintro e w3 ⟨rfl, hb⟩
              have H3 := Lib.hid (H2.out.trans (hb.mono H2.out.size))
              have hkb := HKC.out _ H3.out
              obtain ⟨x0, x1, x2, x3, x4, x5, x6, x7⟩ := hkb
              clear hb
              go_wp2_with fail
              refine (HG3.out _).mono ?_
              rintro e w4 ⟨rfl, hb⟩
              have H4 := Lib.hid (H3.out.trans (hb.mono H3.out.size))
              have hkb := HKC.out _ H4.out
              obtain ⟨x0, x1, x2, x3, x4, x5, x6, x7⟩ := hkb
              clear hb
              go_wp2_with fail
              go_ret
              exact ⟨rfl, HB.out.trans ((HC.out.trans (H4.out.mono HC.out.size)).mono HB.out.size)⟩
end Go.Proofs.YtopocmihbmaamaaGreatDoor
