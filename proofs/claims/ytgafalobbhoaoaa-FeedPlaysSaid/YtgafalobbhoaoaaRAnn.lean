/-
  The contract of the reference's Announced, at any line.
-/
import Derived.Test.YtgafalobbhoaoaaRNum
import Derived.Test.YtgafalobbhoaoaaNil
namespace Go.Proofs.Ytgafalobbhoaoaa
set_option linter.unusedVariables false
open Go.RowKit

theorem lastI_eq {c : Nat} {l : List Nat} {o : Nat} (ho : o < l.length) (hc : l[o] = c) (hn : ∀ (i : Nat) (hi : i < l.length), o < i → l[i] ≠ c) : lastI c l = some o := by
  cases h : lastI c l with
  | none => exact absurd hc (lastI_none h o ho)
  | some o' =>
    obtain ⟨h1, h2, h3⟩ := lastI_some h
    have : o = o' := by
      rcases Nat.lt_trichotomy o o' with g | g | g
      · exact absurd h2 (hn o' h1 g)
      · exact g
      · exact absurd hc (h3 o ho g)
    rw [this]
theorem ann_short {L : List Nat} (h : L.length < 3) : annP L = none := by
  unfold annP
  cases hl : lastI 123 L with
  | none => rfl
  | some o =>
    simp only
    split
    · unfold annD
      rw [if_neg]
      rintro ⟨hf, _⟩
      have := (fit_yes hf).1
      simp at this
      omega
    · rfl
theorem ann_last {L : List Nat} (h : L.getD (L.length - 1) 0 ≠ 125) : annP L = none := by
  unfold annP
  cases hl : lastI 123 L with
  | none => rfl
  | some o => simp only; rw [if_neg h]

/-- what a scan back from the end finds -/
theorem ann_scan {L : List Nat} {k n : Nat} (hn : L.length = n + 1) (h125 : L.getD n 0 = 125) (hk : k ≤ n) (hd : ∀ j, k ≤ j → j < n → isD (L.getD j 0) = true) (hs : k = 0 ∨ isD (L.getD (k - 1) 0) = false) :
    annP L = if fitB ((L.drop k).take (n - k)) = true ∧ 0 < k ∧ L.getD (k - 1) 0 = 123 then some (capv ((L.drop k).take (n - k))) else none := by
  have hat : ∀ j (h : j < L.length), L.getD j 0 = L[j] := fun j h => by simp [List.getD, List.getElem?_eq_getElem h]
  have hall : ((L.drop k).take (n - k)).all isD = true := by
    rw [List.all_eq_true]
    intro x hx
    obtain ⟨i, hi, rfl⟩ := List.getElem_of_mem hx
    have hi' : i < n - k := by simp at hi; omega
    have := hd (k + i) (by omega) (by omega)
    rw [hat _ (by omega)] at this
    simpa using this
  by_cases hA : 0 < k ∧ L.getD (k - 1) 0 = 123
  · obtain ⟨hk0, hc⟩ := hA
    have hl : lastI 123 L = some (k - 1) := by
      refine lastI_eq (by omega) (by rw [← hat _ (by omega)]; exact hc) (fun i hi hlt => ?_)
      rw [← hat i hi]
      by_cases hin : i = n
      · rw [hin, h125]; decide
      · intro e
        have := hd i (by omega) (by omega)
        rw [e] at this
        exact absurd this (by decide)
    unfold annP
    rw [hl]
    simp only
    rw [hn, Nat.add_sub_cancel, if_pos h125, show k - 1 + 1 = k by omega]
    unfold annD
    by_cases hf : fitB ((L.drop k).take (n - k)) = true
    · rw [if_pos ⟨hf, hall⟩, if_pos ⟨hf, hk0, hc⟩]
    · rw [if_neg (fun h => hf h.1), if_neg (fun h => hf h.1)]
  · rw [if_neg (fun h => hA h.2)]
    unfold annP
    cases hl : lastI 123 L with
    | none => rfl
    | some o =>
      obtain ⟨h1, h2, h3⟩ := lastI_some hl
      simp only
      rw [hn, Nat.add_sub_cancel, if_pos h125]
      have ho : o ≠ n := by
        rintro rfl
        rw [hat _ h1, h2] at h125
        exact absurd h125 (by decide)
      have hok : o < k := by
        rcases Nat.lt_or_ge o k with g | g
        · exact g
        · have := hd o g (by omega)
          rw [hat _ h1, h2] at this
          exact absurd this (by decide)
      have hne : o ≠ k - 1 := by
        intro e
        apply hA
        refine ⟨by omega, ?_⟩
        rw [← e, hat _ h1, h2]
      have hnd : isD (L.getD (k - 1) 0) = false := by
        rcases hs with g | g
        · omega
        · exact g
      unfold annD
      rw [if_neg]
      rintro ⟨_, hal⟩
      rw [List.all_eq_true] at hal
      have hm : L.getD (k - 1) 0 ∈ (L.drop (o + 1)).take (n - (o + 1)) := by
        rw [hat _ (by omega)]
        have hi : k - 1 - (o + 1) < ((L.drop (o + 1)).take (n - (o + 1))).length := by simp; omega
        have : ((L.drop (o + 1)).take (n - (o + 1)))[k - 1 - (o + 1)] = L[k - 1] := by
          simp only [List.getElem_take, List.getElem_drop]
          congr 1
          omega
        rw [← this]
        exact List.getElem_mem hi
      rw [hal _ hm] at hnd
      cases hnd

theorem natsS_strN {l : List Nat} (h : ∀ n ∈ l, n < 256) : natsS (strN l) = l := by
  unfold natsS strN
  simp only [List.map_map]
  conv => rhs; rw [← List.map_id l]
  apply List.map_congr_left
  intro n hn
  have := h n hn
  simp
  omega
theorem strN_size (l : List Nat) : (strN l).size = l.length := by show (l.map UInt8.ofNat).toArray.size = _; simp

theorem strN_at (l : List Nat) (k : Nat) (h : k < (strN l).size) (hl : k < l.length) : (strN l)[k] = UInt8.ofNat l[k] := by
  have h2 : k < (strN l).data.toList.length := by show k < (l.map UInt8.ofNat).toArray.toList.length; simp; exact hl
  have e : (strN l)[k] = (strN l).data.toList[k] := rfl
  rw [e]
  simp [strN]
set_option maxRecDepth 100000 in
set_option maxHeartbeats 4000000 in
theorem rann_any (v : Value) (L : List Nat) (w : World) (hr : RowB w v L) (hs : L.length ≤ 140737488351232) :
    Calls Try.prog 17 #[v] w fun e w' => e = .returned (annV (annP L)) ∧ w = w' := by
  have hLb := hr.lt
  by_cases h3 : L.length < 3
  · have HA := Lib.hid (ann_short h3)
    obtain ⟨a, len, cap, rfl, hl, _⟩ := hr
    obtain rfl : len = L.length := hl.symm
    have g1 : decide ((L.length : Int) < 3) = true := by simp; omega
    go_enter Try.func17, Try.ntmps17
    go_wp2_with fail
    exact bodyPost_ret (v := .tuple #[.int .i64 0, .bool false]) (by simp [results, Try.results17, go_sem]) rfl ⟨by rw [HA.out]; rfl, rfl⟩
  obtain ⟨n, hn⟩ : ∃ n, L.length = n + 1 := ⟨L.length - 1, by omega⟩
  rcases hr.shape with ⟨rfl, _⟩ | ⟨b, off, cap, rfl, h0, h1, h2, hcell⟩
  · simp at hn
  have hat : ∀ j (h : j < L.length), L.getD j 0 = L[j] := fun j h => by simp [List.getD, List.getElem?_eq_getElem h]
  have hcl : ∀ j, j < n + 1 → w.cell? ⟨b, off + j, none⟩ = some (.int .u8 ((L.getD j 0 : Nat) : Int)) := fun j h => by rw [hat j (by omega)]; exact hcell j (by omega)
  have hgb : ∀ j, j < n + 1 → L.getD j 0 < 256 := fun j h => by rw [hat j (by omega)]; exact hLb _ (List.getElem_mem _)
  have HROW : Hid (∀ i m c, i + m ≤ n + 1 → m ≤ c → c ≤ maxLen → RowB w (.slice (some ⟨b, off + i, none⟩) m c) ((L.drop i).take m)) := Lib.hid (fun i m c g1 g2 g3 => row_part (n := 0) (cap := 0) hcell hLb i m c (by omega) g2 g3)
  have HCL := Lib.hid hcl
  have HGB := Lib.hid hgb
  have HN := Lib.hid hn
  have HAT := Lib.hid hat
  have HLB := Lib.hid hLb
  rw [hn] at h0 h1 h3 hs ⊢
  have hni : (n : Int) < ((n + 1 : Nat) : Int) := by omega
  clear hr hcell hcl hgb hn hat hLb
  have g1 : decide (((n + 1 : Nat) : Int) < 3) = false := by simp; omega
  have g1' : decide (((n : Int) + 1) < 3) = false := by simp; omega
  have hw1 : IntKind.i64.wrap (((n + 1 : Nat) : Int) - 1) = (n : Int) := by rw [IntWalk.i64_in _ (by omega)]; omega
  have hw1' : IntKind.i64.wrap (((n : Int) + 1) - 1) = (n : Int) := by rw [IntWalk.i64_in _ (by omega)]; omega
  have hcn := HCL.out n (by omega)
  obtain ⟨z, hz⟩ : ∃ z, L.getD n 0 = z := ⟨_, rfl⟩
  rw [hz] at hcn
  by_cases h125 : z = 125
  case neg =>
    have hA : annP L = none := ann_last (by rw [HN.out, Nat.add_sub_cancel, hz]; exact h125)
    have HA := Lib.hid hA
    have g2 : ((z : Int) != 125) = true := by simp; omega
    clear hA h125 hz
    go_enter Try.func17, Try.ntmps17
    go_wp2_with fail
    exact bodyPost_ret (v := .tuple #[.int .i64 0, .bool false]) (by simp [results, Try.results17, go_sem]) rfl ⟨by rw [HA.out]; rfl, rfl⟩
  have g2 : ((z : Int) != 125) = false := by simp [h125]
  have HZ := Lib.hid (show L.getD n 0 = 125 by rw [hz, h125])
  clear h125 hz
  go_enter Try.func17, Try.ntmps17
  go_wp2_with fail
  go_loop [5] (fun i => ∃ k : Nat, k ≤ n ∧ i = .int .i64 (k : Int) ∧ (∀ j, k ≤ j → j < n → isD (L.getD j 0) = true)) (fun i => (intOf i).toNat)
  case atStart => exact ⟨n, Nat.le_refl _, rfl, fun j h1 h2 => absurd h2 (by omega)⟩
  case round =>
    obtain ⟨k, hk, rfl, hdig⟩ := hrel
    have HDIG := Lib.hid hdig
    clear hdig
    by_cases hgo : 0 < k ∧ isD (L.getD (k - 1) 0) = true
    · obtain ⟨hk0, hxd⟩ := hgo
      obtain ⟨k1, rfl⟩ : ∃ k1, k = k1 + 1 := ⟨k - 1, by omega⟩
      rw [Nat.add_sub_cancel] at hxd
      have hcx := HCL.out k1 (by omega)
      have HXD := Lib.hid hxd
      obtain ⟨x, hx⟩ : ∃ x, L.getD k1 0 = x := ⟨_, rfl⟩
      rw [hx] at hcx hxd
      simp only [isD, Bool.and_eq_true, decide_eq_true_eq] at hxd
      have e1 : decide (48 ≤ (x : Int)) = true := decide_eq_true (by omega)
      have e2 : decide ((x : Int) ≤ 57) = true := decide_eq_true (by omega)
      have e3 : decide ((0 : Int) < ((k1 + 1 : Nat) : Int)) = true := decide_eq_true (by omega)
      have hw2 : IntKind.i64.wrap (((k1 + 1 : Nat) : Int) - 1) = (k1 : Int) := by rw [IntWalk.i64_in _ (by omega)]; omega
      have hw2' : IntKind.i64.wrap (((k1 : Int) + 1) - 1) = (k1 : Int) := by rw [IntWalk.i64_in _ (by omega)]; omega
      clear hx
      go_wp2_with fail
      go_round
      case rel => exact ⟨k1, by omega, rfl, fun j h1 h2 => by
        by_cases hj : j = k1
        · rw [hj]; exact HXD.out
        · exact HDIG.out j (by omega) h2⟩
      case measure => simp [intOf]
    · have hstop : k = 0 ∨ isD (L.getD (k - 1) 0) = false := by
        by_cases h : k = 0
        · exact .inl h
        · right
          cases hb : isD (L.getD (k - 1) 0) with
          | false => rfl
          | true => exact absurd ⟨by omega, hb⟩ hgo
      have hA := ann_scan HN.out HZ.out hk HDIG.out hstop
      have HA0 := Lib.hid hA
      have HSTOP := Lib.hid hstop
      clear hgo hA hstop
      obtain ⟨dn, rfl⟩ : ∃ dn, n = k + dn := ⟨n - k, by omega⟩
      obtain ⟨ce, rfl⟩ : ∃ ce, cap = k + ce := ⟨cap - k, by omega⟩
      have HDE : Hid (k + dn - k = dn) := Lib.hid (by omega)
      have HD := Lib.hid (show RowB w (.slice (some ⟨b, off + k, none⟩) dn ce) ((L.drop k).take dn) from HROW.out k dn ce (by omega) (by omega) (by omega))
      have HDL := Lib.hid (show ((L.drop k).take dn).length = dn by have := HN.out; simp; omega)
      have hce0 : ¬ ce = 0 := by omega
      have hki : (0 : Int) ≤ (k : Int) := by omega
      have hkd : (k : Int) ≤ ((k + dn : Nat) : Int) := by omega
      have hkd' : (k : Int) ≤ (k : Int) + (dn : Int) := by omega
      have hkc : ((k + dn : Nat) : Int) ≤ ((k + ce : Nat) : Int) := by omega
      obtain ⟨y, hy⟩ : ∃ y, L.getD k 0 = y := ⟨_, rfl⟩
      have hcy : w.cell? ⟨b, off + k, none⟩ = some (.int .u8 ((y : Nat) : Int)) := by rw [← hy]; exact HCL.out k (by omega)
      have hyD : 0 < dn → hd0 ((L.drop k).take dn) = y := by
        intro h
        rw [← hy]
        unfold hd0
        simp [List.getD, h]
      have HYD := Lib.hid hyD
      clear hyD hy
      have hfitn : fitB ((L.drop k).take dn) = false → annP L = none := by
        intro h
        rw [HA0.out, HDE.out]
        rw [if_neg]
        rintro ⟨h1, _⟩
        rw [h] at h1
        cases h1
      have HFN := Lib.hid hfitn
      clear hfitn
      by_cases hk0 : k = 0
      · have e0 : decide ((0 : Int) < (k : Int)) = false := decide_eq_false (by omega)
        have e5 : ((k : Int) == 0) = true := by simp [hk0]
        have e0n : decide (0 < k) = false := decide_eq_false (by omega)
        have e0m : ¬ 0 < k := by omega
        have e5n : (k == 0) = true := by simp [hk0]
        have HK0 := Lib.hid hk0
        clear hk0
        by_cases hdn0 : dn = 0
        · have HA := Lib.hid (HFN.out (by unfold fitB; have := HDL.out; exact decide_eq_false (by omega)))
          have f1 : decide ((dn : Int) < 1) = true := decide_eq_true (by omega)
          clear hdn0
          go_wp2_with fail
          exact bodyPost_ret (v := .tuple #[.int .i64 0, .bool false]) (by simp [results, Try.results17, go_sem]) rfl ⟨by rw [HA.out]; rfl, rfl⟩
        have f1 : decide ((dn : Int) < 1) = false := decide_eq_false (by omega)
        by_cases hdn10 : 10 < dn
        · have HA := Lib.hid (HFN.out (by unfold fitB; have := HDL.out; exact decide_eq_false (by omega)))
          have f2 : decide (10 < (dn : Int)) = true := decide_eq_true (by omega)
          clear hdn0 hdn10
          go_wp2_with fail
          exact bodyPost_ret (v := .tuple #[.int .i64 0, .bool false]) (by simp [results, Try.results17, go_sem]) rfl ⟨by rw [HA.out]; rfl, rfl⟩
        have f2 : decide (10 < (dn : Int)) = false := decide_eq_false (by omega)
        have hdpos : 0 < dn := by omega
        by_cases hlead : y = 48 ∧ 1 < dn
        · have HA := Lib.hid (HFN.out (by unfold fitB; have := HDL.out; have := HYD.out hdpos; exact decide_eq_false (by omega)))
          have f3 : ((y : Int) == 48) = true := by simp [hlead.1]
          have f4 : decide (1 < (dn : Int)) = true := decide_eq_true (by omega)
          clear hdn0 hdn10 hlead
          go_wp2_with fail
          exact bodyPost_ret (v := .tuple #[.int .i64 0, .bool false]) (by simp [results, Try.results17, go_sem]) rfl ⟨by rw [HA.out]; rfl, rfl⟩
        have hcs : (((y : Int) == 48) = false ∨ (((y : Int) == 48) = true ∧ decide (1 < (dn : Int)) = false)) := by
          by_cases h : y = 48
          · exact .inr ⟨by simp [h], decide_eq_false (by omega)⟩
          · exact .inl (beq_false_of_ne (by omega))
        have HCS := Lib.hid hcs
        have HFIT := Lib.hid (show fitB ((L.drop (k)).take dn) = true by unfold fitB; have := HDL.out; have := HYD.out hdpos; exact decide_eq_true (by omega))
        clear hcs hlead
        have HA : Hid (annP L = none) := Lib.hid (by rw [HA0.out, if_neg (fun h => by have := h.2.1; have := HK0.out; omega)])
        clear hdn0 hdn10
        rcases HCS.out with f3 | ⟨f3, f4⟩
        all_goals
          clear HCS
          go_wp2_with fail
          exact bodyPost_ret (v := .tuple #[.int .i64 0, .bool false]) (by simp [results, Try.results17, go_sem]) rfl ⟨by rw [HA.out]; rfl, rfl⟩
      obtain ⟨k1, rfl⟩ : ∃ k1, k = k1 + 1 := ⟨k - 1, by omega⟩
      have hcx := HCL.out k1 (by omega)
      obtain ⟨x, hx⟩ : ∃ x, L.getD k1 0 = x := ⟨_, rfl⟩
      rw [hx] at hcx
      have HX := Lib.hid hx
      have e0 : decide ((0 : Int) < ((k1 + 1 : Nat) : Int)) = true := decide_eq_true (by omega)
      have e5 : (((k1 + 1 : Nat) : Int) == 0) = false := beq_false_of_ne (by omega)
      have hw2 : IntKind.i64.wrap (((k1 + 1 : Nat) : Int) - 1) = (k1 : Int) := by rw [IntWalk.i64_in _ (by omega)]; omega
      have hw2' : IntKind.i64.wrap (((k1 : Int) + 1) - 1) = (k1 : Int) := by rw [IntWalk.i64_in _ (by omega)]; omega
      have hnd : ¬ (48 ≤ x ∧ x ≤ 57) := by
        rcases HSTOP.out with h | h
        · omega
        · rw [Nat.add_sub_cancel, hx] at h
          intro h2
          unfold isD at h
          rw [decide_eq_true h2.1, decide_eq_true h2.2] at h
          cases h
      clear hx
      by_cases hx48 : x < 48
      · have e1 : decide (48 ≤ (x : Int)) = false := decide_eq_false (by omega)
        by_cases hdn0 : dn = 0
        · have HA := Lib.hid (HFN.out (by unfold fitB; have := HDL.out; exact decide_eq_false (by omega)))
          have f1 : decide ((dn : Int) < 1) = true := decide_eq_true (by omega)
          clear hdn0
          go_wp2_with fail
          exact bodyPost_ret (v := .tuple #[.int .i64 0, .bool false]) (by simp [results, Try.results17, go_sem]) rfl ⟨by rw [HA.out]; rfl, rfl⟩
        have f1 : decide ((dn : Int) < 1) = false := decide_eq_false (by omega)
        by_cases hdn10 : 10 < dn
        · have HA := Lib.hid (HFN.out (by unfold fitB; have := HDL.out; exact decide_eq_false (by omega)))
          have f2 : decide (10 < (dn : Int)) = true := decide_eq_true (by omega)
          clear hdn0 hdn10
          go_wp2_with fail
          exact bodyPost_ret (v := .tuple #[.int .i64 0, .bool false]) (by simp [results, Try.results17, go_sem]) rfl ⟨by rw [HA.out]; rfl, rfl⟩
        have f2 : decide (10 < (dn : Int)) = false := decide_eq_false (by omega)
        have hdpos : 0 < dn := by omega
        by_cases hlead : y = 48 ∧ 1 < dn
        · have HA := Lib.hid (HFN.out (by unfold fitB; have := HDL.out; have := HYD.out hdpos; exact decide_eq_false (by omega)))
          have f3 : ((y : Int) == 48) = true := by simp [hlead.1]
          have f4 : decide (1 < (dn : Int)) = true := decide_eq_true (by omega)
          clear hdn0 hdn10 hlead
          go_wp2_with fail
          exact bodyPost_ret (v := .tuple #[.int .i64 0, .bool false]) (by simp [results, Try.results17, go_sem]) rfl ⟨by rw [HA.out]; rfl, rfl⟩
        have hcs : (((y : Int) == 48) = false ∨ (((y : Int) == 48) = true ∧ decide (1 < (dn : Int)) = false)) := by
          by_cases h : y = 48
          · exact .inr ⟨by simp [h], decide_eq_false (by omega)⟩
          · exact .inl (beq_false_of_ne (by omega))
        have HCS := Lib.hid hcs
        have HFIT := Lib.hid (show fitB ((L.drop (k1 + 1)).take dn) = true by unfold fitB; have := HDL.out; have := HYD.out hdpos; exact decide_eq_true (by omega))
        clear hcs hlead
        by_cases hbr : x = 123
        case neg =>
          have HA : Hid (annP L = none) := Lib.hid (by rw [HA0.out, if_neg (fun h => by have := h.2.2; rw [Nat.add_sub_cancel] at this; have := HX.out; omega)])
          have f5 : ((x : Int) != 123) = true := by simp; omega
          clear hdn0 hdn10 hbr
          rcases HCS.out with f3 | ⟨f3, f4⟩
          all_goals
            clear HCS
            go_wp2_with fail
            exact bodyPost_ret (v := .tuple #[.int .i64 0, .bool false]) (by simp [results, Try.results17, go_sem]) rfl ⟨by rw [HA.out]; rfl, rfl⟩
        case pos => omega
      have e1 : decide (48 ≤ (x : Int)) = true := decide_eq_true (by omega)
      have e2 : decide ((x : Int) ≤ 57) = false := decide_eq_false (by omega)
      by_cases hdn0 : dn = 0
      · have HA := Lib.hid (HFN.out (by unfold fitB; have := HDL.out; exact decide_eq_false (by omega)))
        have f1 : decide ((dn : Int) < 1) = true := decide_eq_true (by omega)
        clear hdn0
        go_wp2_with fail
        exact bodyPost_ret (v := .tuple #[.int .i64 0, .bool false]) (by simp [results, Try.results17, go_sem]) rfl ⟨by rw [HA.out]; rfl, rfl⟩
      have f1 : decide ((dn : Int) < 1) = false := decide_eq_false (by omega)
      by_cases hdn10 : 10 < dn
      · have HA := Lib.hid (HFN.out (by unfold fitB; have := HDL.out; exact decide_eq_false (by omega)))
        have f2 : decide (10 < (dn : Int)) = true := decide_eq_true (by omega)
        clear hdn0 hdn10
        go_wp2_with fail
        exact bodyPost_ret (v := .tuple #[.int .i64 0, .bool false]) (by simp [results, Try.results17, go_sem]) rfl ⟨by rw [HA.out]; rfl, rfl⟩
      have f2 : decide (10 < (dn : Int)) = false := decide_eq_false (by omega)
      have hdpos : 0 < dn := by omega
      by_cases hlead : y = 48 ∧ 1 < dn
      · have HA := Lib.hid (HFN.out (by unfold fitB; have := HDL.out; have := HYD.out hdpos; exact decide_eq_false (by omega)))
        have f3 : ((y : Int) == 48) = true := by simp [hlead.1]
        have f4 : decide (1 < (dn : Int)) = true := decide_eq_true (by omega)
        clear hdn0 hdn10 hlead
        go_wp2_with fail
        exact bodyPost_ret (v := .tuple #[.int .i64 0, .bool false]) (by simp [results, Try.results17, go_sem]) rfl ⟨by rw [HA.out]; rfl, rfl⟩
      have hcs : (((y : Int) == 48) = false ∨ (((y : Int) == 48) = true ∧ decide (1 < (dn : Int)) = false)) := by
        by_cases h : y = 48
        · exact .inr ⟨by simp [h], decide_eq_false (by omega)⟩
        · exact .inl (beq_false_of_ne (by omega))
      have HCS := Lib.hid hcs
      have HFIT := Lib.hid (show fitB ((L.drop (k1 + 1)).take dn) = true by unfold fitB; have := HDL.out; have := HYD.out hdpos; exact decide_eq_true (by omega))
      clear hcs hlead
      by_cases hbr : x = 123
      case neg =>
        have HA : Hid (annP L = none) := Lib.hid (by rw [HA0.out, if_neg (fun h => by have := h.2.2; rw [Nat.add_sub_cancel] at this; have := HX.out; omega)])
        have f5 : ((x : Int) != 123) = true := by simp; omega
        clear hdn0 hdn10 hbr
        rcases HCS.out with f3 | ⟨f3, f4⟩
        all_goals
          clear HCS
          go_wp2_with fail
          exact bodyPost_ret (v := .tuple #[.int .i64 0, .bool false]) (by simp [results, Try.results17, go_sem]) rfl ⟨by rw [HA.out]; rfl, rfl⟩
      have f5 : ((x : Int) != 123) = false := by simp [hbr]
      have hA : annP L = some (capv ((L.drop (k1 + 1)).take dn)) := by rw [HA0.out, HDE.out, if_pos ⟨HFIT.out, by omega, by rw [Nat.add_sub_cancel]; have := HX.out; omega⟩]
      have HA := Lib.hid hA
      have hDall : ((L.drop (k1 + 1)).take dn).all isD = true := by
        rw [List.all_eq_true]
        intro q hq
        obtain ⟨i, hi, rfl⟩ := List.getElem_of_mem hq
        have hi' : i < dn := by rw [HDL.out] at hi; exact hi
        have := HDIG.out (k1 + 1 + i) (by omega) (by omega)
        rw [HAT.out _ (by have := HN.out; omega)] at this
        simpa using this
      obtain ⟨D, hD⟩ : ∃ D, D = (L.drop (k1 + 1)).take dn := ⟨_, rfl⟩
      have HALL := Lib.hid hDall
      have hcv := run_str HD.out
      rw [← hD] at HALL HD HDL HFIT HA HYD hcv
      have hsz := strN_size D
      have HSZ := Lib.hid hsz
      clear hA hDall hdn0 hdn10 hbr hsz hD
      rcases HCS.out with f3 | ⟨f3, f4⟩
      all_goals
        clear HCS
        go_wp2_with fail
        refine (number_any (strN D) _ (by have := HSZ.out; have := HDL.out; omega) (by have := HSZ.out; have := HDL.out; have := fit_yes HFIT.out; omega) ?_ (by rw [natsS_strN HD.out.lt]; exact HALL.out)).mono ?_
        · have h1 := fit_yes HFIT.out
          have h2 := HDL.out
          rcases h1.2.2 with h | h
          · left
            have h0 : 0 < D.length := by omega
            rw [strN_at D 0 (by have := HSZ.out; omega) h0]
            have hlt := HD.out.lt D[0] (List.getElem_mem h0)
            have e2 : hd0 D = D[0] := by unfold hd0; simp [List.getD, List.getElem?_eq_getElem h0]
            rw [e2] at h
            simp
            omega
          · right
            rw [HSZ.out, h]
        · rintro e w2 ⟨rfl, rfl⟩
          rw [natsS_strN HD.out.lt]
          have hcn := capv_numv D
          by_cases hle : numv D ≤ 16384
          · rw [numR_yes hle]
            have HC := Lib.hid (show capv D = numv D by omega)
            clear hcn
            go_wp2_with fail
            exact bodyPost_ret (v := .tuple #[.int .i64 ((numv D : Nat) : Int), .bool true]) (by simp [results, Try.results17, go_sem]) rfl ⟨by rw [HA.out, HC.out]; rfl, rfl⟩
          · rw [numR_no hle]
            have HC := Lib.hid (show capv D = 16385 by omega)
            clear hcn hle
            go_wp2_with fail
            exact bodyPost_ret (v := .tuple #[.int .i64 16385, .bool true]) (by simp [results, Try.results17, go_sem]) rfl ⟨by rw [HA.out, HC.out]; rfl, rfl⟩
end Go.Proofs.Ytgafalobbhoaoaa
