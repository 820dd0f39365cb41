/-
  The reference's literals.
-/
import Derived.Test.YtghibofnfjnfcaaDoorRefQ
import Derived.Deep.DeepCutAuto
import Derived.Deep.CutBlock
namespace Go.Proofs.YtghibofnfjnfcaaDoor
set_option linter.unusedVariables false
open Go.RowKit

theorem takeWhile_at (l : List Nat) : ∀ (k : Nat), k ≤ l.length → (∀ x ∈ l.take k, digB x = true) → (k = l.length ∨ ∃ h : k < l.length, digB l[k] = false) → l.takeWhile digB = l.take k := by
  induction l with
  | nil => intro k hk _ _; simp
  | cons c l ih =>
    intro k hk hall hend
    cases k with
    | zero =>
      rcases hend with h | ⟨h, hd⟩
      · simp at h
      · rw [List.takeWhile_cons]
        simp only [List.getElem_cons_zero] at hd
        rw [hd]
        simp
    | succ k =>
      have hc := hall c (by simp)
      rw [List.takeWhile_cons, hc, if_pos rfl, List.take_succ_cons, ih k (by simpa using hk) (fun x hx => hall x (by simp [hx])) ?_]
      rcases hend with h | ⟨h, hd⟩
      · left; simpa using h
      · right; exact ⟨by simpa using h, by simpa using hd⟩
theorem valN_big (c : Nat) (w : List Nat) (hc : 49 ≤ c) (hw : 5 ≤ w.length) : 16384 < valN (c :: w) := by
  have h : ∀ (w : List Nat) (a : Nat), a * 10 ^ w.length ≤ w.foldl (fun a d => a * 10 + (d - 48)) a := by
    intro w
    induction w with
    | nil => intro a; simp
    | cons d w ih =>
      intro a
      rw [List.foldl_cons, List.length_cons, Nat.pow_succ]
      refine Nat.le_trans ?_ (ih _)
      have : a * (10 ^ w.length * 10) = (a * 10) * 10 ^ w.length := by rw [Nat.mul_comm (10 ^ w.length) 10, Nat.mul_assoc]
      rw [this]
      exact Nat.mul_le_mul_right _ (by omega)
  have h1 := h w (c - 48)
  have h2 : 10 ^ 5 ≤ 10 ^ w.length := Nat.pow_le_pow_right (by decide) hw
  have h3 : valN (c :: w) = w.foldl (fun a d => a * 10 + (d - 48)) (c - 48) := by unfold valN; rw [List.foldl_cons, Nat.zero_mul, Nat.zero_add]
  rw [h3]
  have h4 : 1 * 10 ^ 5 ≤ (c - 48) * 10 ^ w.length := Nat.mul_le_mul (by omega) h2
  omega
theorem RowB.head {w : World} {a : Option Addr} {c : Nat} {l : List Nat} {n : Nat} (h : RowB w (.slice a l.length c) l) (hn : n ≤ l.length) (h0 : a ≠ none) : RowB w (.slice a n c) (l.take n) := by
  obtain ⟨ad, len, cap, e, hl, hc, hm, hw, hne, hcell⟩ := h
  simp only [Value.slice.injEq] at e
  obtain ⟨rfl, rfl, rfl⟩ := e
  refine ⟨a, n, c, rfl, by simp; omega, by omega, hm, fun x hx => hw x (List.mem_of_mem_take hx), fun e => absurd e h0, fun x hx i hi => ?_⟩
  rw [hcell x hx i (by simp at hi; omega)]
  simp
theorem RowB.tail_end {w : World} {a : Option Addr} {c k : Nat} {l : List Nat} (h : RowB w (.slice a l.length c) l) (hk : c = k) (hl : k ≤ l.length) (h0 : a ≠ none) : RowB w (.slice a (l.length - k) 0) (l.drop k) := by
  obtain ⟨ad, len, cap, e, hl1, hc, hm, hw, hne, hcell⟩ := h
  simp only [Value.slice.injEq] at e
  obtain ⟨rfl, rfl, rfl⟩ := e
  have e0 : l.length - k = 0 := by omega
  have ed : l.drop k = [] := List.drop_eq_nil_of_le (by omega)
  rw [e0, ed]
  exact ⟨a, 0, 0, rfl, rfl, Nat.le_refl _, by decide, by simp, fun e => ⟨rfl, rfl⟩, by simp⟩

set_option maxRecDepth 100000 in
set_option maxHeartbeats 16000000 in
theorem counted_ref (v : Value) (l : List Nat) (w : World) (hr : RowB w v l) (hl : l.length ≤ 100000) : Calls Tryd.prog 18 #[v] w (TextOut w (cntR l)) := by
  obtain ⟨a, cap, rfl⟩ : ∃ a c, v = .slice a l.length c := by obtain ⟨a, len, c, e, h, _⟩ := hr; exact ⟨a, c, by rw [e, h]⟩
  have HROW := Lib.hid hr
  clear hr
  go_enter Tryd.func18, Tryd.ntmps18
  go_upto_block 0 with fail
  go_cut [5] (fun i wx => ∃ k : Nat, k ≤ l.length ∧ i = .int .i64 (k : Int) ∧ (∀ x ∈ l.take k, digB x = true) ∧ (k = l.length ∨ ∃ h : k < l.length, digB l[k] = false) ∧ wx = w)
  case first =>
    go_wp2_with fail
    go_loop [5] (fun i => ∃ k : Nat, k ≤ l.length ∧ i = .int .i64 (k : Int) ∧ ∀ x ∈ l.take k, digB x = true) (fun i => l.length - (intOf i).toNat)
    case atStart => exact ⟨0, Nat.zero_le _, rfl, by simp⟩
    case round =>
      obtain ⟨k, hk, rfl, hall⟩ := hrel
      have HALL := Lib.hid hall
      clear hall
      by_cases hlt : k < l.length
      · obtain ⟨lb, lo, ha, hcap, hcell⟩ := row_addr HROW.out (by omega)
        subst ha
        have hcc := hcell k hlt
        have hsn : l.take (k + 1) = l.take k ++ [l[k]] := List.take_succ_eq_append_getElem hlt
        have HSN := Lib.hid hsn
        cases hdg : digB l[k]
        · have HEND : Hid (k = l.length ∨ ∃ h : k < l.length, digB l[k] = false) := Lib.hid (.inr ⟨hlt, hdg⟩)
          have hnd : l[k] < 48 ∨ 48 ≤ l[k] ∧ 57 < l[k] := by
            have : ¬ (48 ≤ l[k] ∧ l[k] ≤ 57) := by intro h; rw [digB_iff.2 h] at hdg; cases hdg
            omega
          have HND := Lib.hid hnd
          clear hcell hnd hdg hsn
          generalize hc : l[k] = c at hcc HND
          clear hc
          rcases HND.out with h | ⟨h, h2⟩
          · have g1 : (c : Int) < 48 := by omega
            clear HND
            go_wp2_with fail
            go_meet
            exact ⟨k, hk, rfl, HALL.out, HEND.out, rfl⟩
          · have g1 : (48 : Int) ≤ (c : Int) := by omega
            have g2 : (57 : Int) < (c : Int) := by omega
            clear HND
            go_wp2_with fail
            go_meet
            exact ⟨k, hk, rfl, HALL.out, HEND.out, rfl⟩
        · have HDG := Lib.hid hdg
          obtain ⟨h1, h2⟩ := digB_iff.1 hdg
          clear hcell hsn hdg
          generalize l[k] = c at *
          have g1 : (48 : Int) ≤ (c : Int) := by omega
          have g2 : (c : Int) ≤ 57 := by omega
          go_wp2_with fail
          go_round
          case rel => exact ⟨k + 1, by omega, by go_num, by rw [HSN.out]; exact mem_snocN (P := fun n => digB n = true) HALL.out HDG.out⟩
          case measure => simp [intOf]; omega
      · obtain rfl : k = l.length := by omega
        go_wp2_with fail
        go_meet
        exact ⟨l.length, Nat.le_refl _, rfl, HALL.out, .inl rfl, rfl⟩
  case rest =>
    obtain ⟨k, hk, rfl, hall, hend, rfl⟩ := hcut
    have htw := takeWhile_at l k hk hall hend
    have hkl : (l.take k).length = k := by simp; omega
    have hcnt : cntR l = if 1 < k ∧ l.head? = some 48 then (9, [], 0) else cntA (l.take k) (l.drop k) := by unfold cntR; rw [htw, hkl]
    have HCNT := Lib.hid hcnt
    have HKL := Lib.hid hkl
    have HEND := Lib.hid hend
    have HALL := Lib.hid hall
    clear htw hcnt hkl hend hall
    by_cases hz : 1 < k ∧ l.head? = some 48
    · obtain ⟨h1, h2⟩ := hz
      have hq := HCNT.out
      rw [if_pos ⟨h1, h2⟩] at hq
      have HQ := Lib.hid hq
      obtain ⟨lb, lo, ha, hcap, hcell⟩ := row_addr HROW.out (by omega)
      subst ha
      have h0 : l[0]'(by omega) = 48 := by rw [List.head?_eq_getElem?, List.getElem?_eq_getElem (by omega)] at h2; simpa using h2
      have hcc : wc.cell? ⟨lb, lo, none⟩ = some (.int .u8 48) := by have := hcell 0 (by omega); rw [h0] at this; simpa using this
      have g1 : (1 : Int) < (k : Int) := by omega
      clear hcell hq h2 h0
      go_wp2_with fail
      refine bodyPost_ret (v := .tuple #[.string ⟨#[]⟩, .int .i64 0, .int .i64 9]) (by simp [results, Tryd.results18, go_sem]) rfl ?_
      rw [HQ.out]
      exact ⟨rfl, Below.refl _ _⟩
    · have hq := HCNT.out
      rw [if_neg hz] at hq
      have HQ := Lib.hid hq
      have HZ := Lib.hid hz
      clear hq HCNT hz
      go_upto_region 4 with fail
      go_cut [39] (fun bv wx => bv = .bool false ∧ wx = wc)
      case first =>
        by_cases h1 : 1 < k
        · obtain ⟨lb, lo, ha, hcap, hcell⟩ := row_addr HROW.out (by omega)
          subst ha
          have h0 : l[0]'(by omega) ≠ 48 := fun e => HZ.out ⟨h1, by rw [List.head?_eq_getElem?, List.getElem?_eq_getElem (by omega), e]⟩
          have hcc : wc.cell? ⟨lb, lo, none⟩ = some (.int .u8 ((l[0]'(by omega) : Nat) : Int)) := by have := hcell 0 (by omega); simpa using this
          have g1 : (1 : Int) < (k : Int) := by omega
          have g2 : ¬ ((l[0]'(by omega) : Nat) : Int) = 48 := by omega
          have g2b : (((l[0]'(by omega) : Nat) : Int) == 48) = false := beq_false_of_ne g2
          clear hcell h0
          go_wp2_with fail
          go_meet
          exact ⟨rfl, rfl⟩
        · have g1 : ¬ (1 : Int) < (k : Int) := by omega
          clear h1
          go_wp2_with fail
          go_meet
          exact ⟨rfl, rfl⟩
      case rest =>
        obtain ⟨rfl, rfl⟩ := hcut
        have hb6 : Below wc.heap.size wc (wc.alloc (.cells #[.int .u8 125, .int .u8 13, .int .u8 10] 5)) := (Below.refl _ _).alloc (Nat.le_refl _) _
        have t0 : (wc.alloc (.cells #[.int .u8 125, .int .u8 13, .int .u8 10] 5)).cell? ⟨wc.heap.size, 0, none⟩ = some (.int .u8 125) := cell_of_row _ _ 0 _ 5 (0, 0) (heap_alloc_new wc _)
        have t1 : (wc.alloc (.cells #[.int .u8 125, .int .u8 13, .int .u8 10] 5)).cell? ⟨wc.heap.size, 1, none⟩ = some (.int .u8 13) := cell_of_row _ _ 1 _ 5 (0, 0) (heap_alloc_new wc _)
        have t2 : (wc.alloc (.cells #[.int .u8 125, .int .u8 13, .int .u8 10] 5)).cell? ⟨wc.heap.size, 2, none⟩ = some (.int .u8 10) := cell_of_row _ _ 2 _ 5 (0, 0) (heap_alloc_new wc _)
        have HB6 := Lib.hid hb6
        have HR6 := Lib.hid (HROW.out.below hb6)
        clear hb6
        go_upto_region 6 with fail
        go_wp2_with fail
        generalize wc.alloc (.cells #[.int .u8 125, .int .u8 13, .int .u8 10] 5) = w6 at *
        refine wp_loop_rounds 4 ?_
        rw [rounds_succ]
        by_cases e0 : k = l.length
        · have hq := HQ.out
          rw [show l.drop k = [] by rw [e0]; simp] at hq
          have HQ2 := Lib.hid hq
          have g1 : (k : Int) = (l.length : Int) := by omega
          have g1b : ((k : Int) == (l.length : Int)) = true := by simp; omega
          clear hq e0
          go_wp2_with fail
          refine bodyPost_ret (v := .tuple #[.string ⟨#[]⟩, .int .i64 0, .int .i64 8]) (by simp [results, Tryd.results18, go_sem]) rfl ?_
          rw [HQ2.out]
          exact ⟨rfl, HB6.out⟩
        obtain ⟨lb, lo, ha, hcap, hcell⟩ := row_addr HR6.out (by omega)
        subst ha
        have HCELL := Lib.hid hcell
        have g1 : ¬ (k : Int) = (l.length : Int) := by omega
        have g1b : ((k : Int) == (l.length : Int)) = false := beq_false_of_ne g1
        have hk0 : k < l.length := by omega
        obtain ⟨d0, hd0⟩ : ∃ d, l[k] = d := ⟨_, rfl⟩
        have c0 := hcell k hk0
        rw [hd0] at c0
        have hq := HQ.out
        rw [List.drop_eq_getElem_cons hk0, hd0, cntA_cons] at hq
        clear hcell hd0 e0 HQ
        by_cases h1 : d0 ≠ 125 ∨ l.take k = []
        · rw [if_pos h1] at hq
          have HQ2 := Lib.hid hq
          clear hq
          by_cases h2 : d0 = 125
          · have hk00 : k = 0 := by rcases h1 with h | h; exact absurd h2 h; have := HKL.out; rw [h] at this; simpa using this.symm
            subst h2
            have gk : (k : Int) = 0 := by omega
            have gkb : ((k : Int) == 0) = true := by simp; omega
            have c0' : w6.cell? ⟨lb, lo + k, none⟩ = some (.int .u8 125) := c0
            have c0'' : w6.cell? ⟨lb, lo, none⟩ = some (.int .u8 125) := by have := c0'; rw [hk00] at this; simpa using this
            have gl : (0 : Int) < (l.length : Int) := by omega
            have gl2 : ¬ (0 : Int) = (l.length : Int) := by omega
            have gl3 : ((0 : Int) == (l.length : Int)) = false := beq_false_of_ne gl2
            clear h1 c0 hk00
            go_wp2_with fail
            refine bodyPost_ret (v := .tuple #[.string ⟨#[]⟩, .int .i64 0, .int .i64 9]) (by simp [results, Tryd.results18, go_sem]) rfl ?_
            rw [HQ2.out]
            exact ⟨rfl, HB6.out⟩
          · have g2 : ¬ (d0 : Int) = 125 := by omega
            have g2b : ((d0 : Int) == 125) = false := beq_false_of_ne g2
            have g2n : ((d0 : Int) != 125) = true := by simpa using g2
            clear h1 h2
            go_wp2_with fail
            refine bodyPost_ret (v := .tuple #[.string ⟨#[]⟩, .int .i64 0, .int .i64 9]) (by simp [results, Tryd.results18, go_sem]) rfl ?_
            rw [HQ2.out]
            exact ⟨rfl, HB6.out⟩
        rw [if_neg h1] at hq
        have h125 : d0 = 125 := by by_cases h : d0 = 125; exact h; exact absurd (.inl h) h1
        have hkp : k ≠ 0 := fun h => h1 (.inr (by rw [h]; rfl))
        subst h125
        have HQ := Lib.hid hq
        have gk : ¬ (k : Int) = 0 := by omega
        have gkb : ((k : Int) == 0) = false := beq_false_of_ne gk
        clear hq h1
        go_wp2_with fail
        rw [rounds_succ]
        by_cases e1 : k + 1 = l.length
        · have hq := HQ.out
          rw [show l.drop (k + 1) = [] by rw [e1]; simp] at hq
          have HQ2 := Lib.hid hq
          have g1 : (k : Int) + 1 = (l.length : Int) := by omega
          have g1b : ((k : Int) + 1 == (l.length : Int)) = true := by simp; omega
          clear hq e1
          go_wp2_with fail
          refine bodyPost_ret (v := .tuple #[.string ⟨#[]⟩, .int .i64 0, .int .i64 8]) (by simp [results, Tryd.results18, go_sem]) rfl ?_
          rw [HQ2.out]
          exact ⟨rfl, HB6.out⟩
        have g1x : ¬ (k : Int) + 1 = (l.length : Int) := by omega
        have g1y : ((k : Int) + 1 == (l.length : Int)) = false := beq_false_of_ne g1x
        have hk1 : k + 1 < l.length := by omega
        obtain ⟨d1, hd1⟩ : ∃ d, l[k + 1] = d := ⟨_, rfl⟩
        have c1 := HCELL.out (k + 1) hk1
        rw [hd1, show lo + (k + 1) = lo + k + 1 by omega] at c1
        have c1' : w6.cell? ⟨lb, lo + (k + 1), none⟩ = some (.int .u8 (d1 : Nat)) := by rw [show lo + (k + 1) = lo + k + 1 by omega]; exact c1
        have hq := HQ.out
        rw [List.drop_eq_getElem_cons hk1, hd1, cnt1_cons] at hq
        clear hd1 e1 HQ
        by_cases h1 : d1 ≠ 13
        · rw [if_pos h1] at hq
          have HQ2 := Lib.hid hq
          have g2 : ¬ (d1 : Int) = 13 := by omega
          have g2b : ((d1 : Int) == 13) = false := beq_false_of_ne g2
          have g2n : ((d1 : Int) != 13) = true := by simpa using g2
          clear hq h1
          go_wp2_with fail
          refine bodyPost_ret (v := .tuple #[.string ⟨#[]⟩, .int .i64 0, .int .i64 9]) (by simp [results, Tryd.results18, go_sem]) rfl ?_
          rw [HQ2.out]
          exact ⟨rfl, HB6.out⟩
        rw [if_neg h1] at hq
        have hw1 : d1 = 13 := by omega
        subst hw1
        have HQ1 := Lib.hid hq
        clear hq h1
        go_wp2_with fail
        rw [rounds_succ]
        by_cases e2 : k + 2 = l.length
        · have hq := HQ1.out
          rw [show l.drop (k + 2) = [] by rw [e2]; simp] at hq
          have HQ2 := Lib.hid hq
          have g1 : (k : Int) + 2 = (l.length : Int) := by omega
          have g1b : ((k : Int) + 2 == (l.length : Int)) = true := by simp; omega
          clear hq e2
          go_wp2_with fail
          refine bodyPost_ret (v := .tuple #[.string ⟨#[]⟩, .int .i64 0, .int .i64 8]) (by simp [results, Tryd.results18, go_sem]) rfl ?_
          rw [HQ2.out]
          exact ⟨rfl, HB6.out⟩
        have g2x : ¬ (k : Int) + 2 = (l.length : Int) := by omega
        have g2y : ((k : Int) + 2 == (l.length : Int)) = false := beq_false_of_ne g2x
        have hk2 : k + 2 < l.length := by omega
        obtain ⟨d2, hd2⟩ : ∃ d, l[k + 2] = d := ⟨_, rfl⟩
        have c2 := HCELL.out (k + 2) hk2
        rw [hd2, show lo + (k + 2) = lo + k + 2 by omega] at c2
        have c2' : w6.cell? ⟨lb, lo + (k + 2), none⟩ = some (.int .u8 (d2 : Nat)) := by rw [show lo + (k + 2) = lo + k + 2 by omega]; exact c2
        have hq := HQ1.out
        rw [List.drop_eq_getElem_cons hk2, hd2, cnt2_cons] at hq
        clear hd2 e2 HQ1
        by_cases h1 : d2 ≠ 10
        · rw [if_pos h1] at hq
          have HQ2 := Lib.hid hq
          have g2 : ¬ (d2 : Int) = 10 := by omega
          have g2b : ((d2 : Int) == 10) = false := beq_false_of_ne g2
          have g2n : ((d2 : Int) != 10) = true := by simpa using g2
          clear hq h1
          go_wp2_with fail
          refine bodyPost_ret (v := .tuple #[.string ⟨#[]⟩, .int .i64 0, .int .i64 9]) (by simp [results, Tryd.results18, go_sem]) rfl ?_
          rw [HQ2.out]
          exact ⟨rfl, HB6.out⟩
        rw [if_neg h1] at hq
        have hw2 : d2 = 10 := by omega
        subst hw2
        have HQ2 := Lib.hid hq
        clear hq h1
        go_wp2_with fail
        rw [rounds_succ]
        have hdsl : (l.take k).length = k := HKL.out
        have hrow14 := HR6.out.head (n := k) (by omega) (by simp)
        have hdslt : ∀ n ∈ l.take k, n < 256 := fun n hn => HROW.out.lt n (List.mem_of_mem_take hn)
        have hstr := run_str (w := w6) hrow14
        have hkc : (k : Int) ≤ (cap : Int) := by omega
        clear t0 t1 t2 hrow14
        have hds0 : 0 < (l.take k).length := by rw [HKL.out]; omega
        obtain ⟨V, hV⟩ : ∃ V, valN (l.take k) = V := ⟨_, rfl⟩
        have hnum : Calls Tryd.prog 25 #[.string (strN (l.take k)), .int .u64 16384] w6 fun e w' => e = .returned (if V ≤ 16384 then .tuple #[.int .u64 (V : Int), .bool true] else .tuple #[.int .u64 0, .bool false]) ∧ w6 = w' := by
          have hsz : (strN (l.take k)).size = k := by rw [show (strN (l.take k)).size = (l.take k).length by simp [strN, ByteArray.size], HKL.out]
          have hns : natsS (strN (l.take k)) = l.take k := natsS_strN _ hdslt
          have h48 : k = 1 ∨ (l[0]'(by omega)) ≠ 48 := by
            by_cases h : k = 1
            · exact .inl h
            · right; intro e; exact HZ.out ⟨by omega, by rw [List.head?_eq_getElem?, List.getElem?_eq_getElem (by omega), e]⟩
          have hat0 : (l.take k)[0]'(by omega) = l[0]'(by omega) := by simp
          by_cases h20 : k ≤ 20
          · have := number_any (strN (l.take k)) w6 (by omega) (by omega) (by
              have e0 := natsS_at (strN (l.take k)) 0 (by omega)
              have e1 : (natsS (strN (l.take k)))[0]'(by rw [hns]; omega) = l[0]'(by omega) := by simp only [hns]; exact hat0
              rcases h48 with h | h
              · right; omega
              · left; rw [← e0, e1]; exact h) (by rw [hns]; exact List.all_eq_true.2 HALL.out)
            rw [hns, hV] at this
            unfold numR at this
            exact this
          · have hbig : 16384 < valN (l.take k) := by
              obtain ⟨c, r, hcr⟩ : ∃ c r, l.take k = c :: r := by cases h : l.take k with
                | nil => rw [h] at hds0; simp at hds0
                | cons c r => exact ⟨c, r, rfl⟩
              have hlr : r.length + 1 = k := by have := HKL.out; rw [hcr] at this; simpa using this
              have hc0 : c = l[0]'(by omega) := by rw [← hat0]; simp only [hcr]; rfl
              have hcd := digB_iff.1 (HALL.out c (by rw [hcr]; simp))
              rw [hcr]
              refine valN_big c r ?_ (by omega)
              rcases h48 with h | h
              · omega
              · rw [hc0] at hcd ⊢; omega
            rw [if_neg (by omega)]
            exact number_long _ w6 (by omega) (by omega)
        have HNUM := Lib.hid hnum
        have HV := Lib.hid hV
        clear hnum hV hds0
        go_wp2_with fail
        refine HNUM.out.mono ?_
        rintro e w7 ⟨rfl, rfl⟩
        have hq := HQ2.out
        unfold cnt3 at hq
        rw [HV.out, HKL.out] at hq
        by_cases hv : V ≤ 16384
        · rw [if_pos hv]
          rw [if_neg (show ¬ 16384 < V by omega)] at hq
          have HQB := Lib.hid hq
          clear hq
          have hk3 : k + 3 ≤ l.length := by omega
          have hne : (some (⟨lb, lo, none⟩ : Addr)) ≠ none := by simp
          go_upto_region 17 with fail
          go_cut [10] (fun rv wx => ∃ x rc, rv = .slice (some x) (l.drop (k + 3)).length rc ∧ RowB w6 (.slice (some x) (l.drop (k + 3)).length rc) (l.drop (k + 3)) ∧ wx = w6)
          case first =>
            have hdl : (l.drop (k + 3)).length = l.length - (k + 3) := by simp
            have g1 : (k : Int) + 3 ≤ (l.length : Int) := by omega
            have hln : l.length - (k + 3) = l.length - (k + 3) := rfl
            by_cases hce : cap = k + 3
            · subst hce
              have hr2 := HR6.out.tail_end rfl hk3 hne
              have HR7 := Lib.hid hr2
              have HDL := Lib.hid hdl
              clear hr2 hdl
              go_wp2_with fail
              go_meet
              exact ⟨⟨lb, lo, none⟩, 0, by rw [HDL.out, show l.length - (k + 3) = 0 by omega], by rw [HDL.out]; exact HR7.out, rfl⟩
            · have hr2 := row_part HR6.out (k + 3) l.length hk3 (Nat.le_refl _)
              rw [List.take_of_length_le (by simp)] at hr2
              have HR7 := Lib.hid hr2
              have HDL := Lib.hid hdl
              clear hr2 hdl
              go_wp2_with fail
              go_meet
              exact ⟨⟨lb, lo + (k + 3), none⟩, cap - (k + 3), by rw [HDL.out], by rw [HDL.out]; exact HR7.out, rfl⟩
          case rest =>
            obtain ⟨x, rc, rfl, hrr, rfl⟩ := hcut
            have HRR := Lib.hid hrr
            have hql : l.drop (k + 2 + 1) = l.drop (k + 3) := rfl
            have hRl : (l.drop (k + 3)).length ≤ 100000 := by simp; omega
            have hRk : k + 3 + (l.drop (k + 3)).length = l.length := by simp; omega
            have HQC := Lib.hid (HQB.out : cntR l = cntB k V (l.drop (k + 3)))
            generalize l.drop (k + 3) = R at *
            have hvc : IntKind.i64.wrap (V : Int) = (V : Int) := IntWalk.i64_in _ (by omega)
            clear hrr hql HQB
            go_wp2_with fail
            go_loop [11] (fun i => ∃ j : Nat, j ≤ R.length ∧ j ≤ V ∧ i = .int .i64 (j : Int) ∧ ∀ y ∈ R.take j, y ≠ 0) (fun i => R.length - (intOf i).toNat)
            case atStart => exact ⟨0, Nat.zero_le _, Nat.zero_le _, rfl, by simp⟩
            case round =>
              obtain ⟨j, hj, hjv, rfl, hnz⟩ := hrel
              have HNZ := Lib.hid hnz
              clear hnz
              by_cases hgo : j < R.length ∧ j < V
              · obtain ⟨hj1, hj2⟩ := hgo
                obtain ⟨lb2, lo2, ha2, _, hcell2⟩ := row_addr HRR.out (by omega)
                obtain rfl := Option.some.inj ha2
                have hcc := hcell2 j hj1
                have hsn : R.take (j + 1) = R.take j ++ [R[j]] := List.take_succ_eq_append_getElem hj1
                have HSN := Lib.hid hsn
                have g1 : (j : Int) < (R.length : Int) := by omega
                have g2 : (j : Int) < (V : Int) := by omega
                have hmem : R[j] ∈ R.take V := by
                  rw [List.mem_take_iff_getElem]
                  exact ⟨j, by omega, rfl⟩
                have HMEM := Lib.hid hmem
                clear hcell2 hsn hmem
                by_cases hz0 : R[j] = 0
                · have hq := HQC.out
                  unfold cntB at hq
                  rw [if_pos (List.any_eq_true.2 ⟨_, HMEM.out, by simpa using hz0⟩)] at hq
                  have HQD := Lib.hid hq
                  rw [hz0] at hcc
                  clear hq hz0 HSN HMEM
                  go_wp2_with fail
                  refine bodyPost_ret (v := .tuple #[.string ⟨#[]⟩, .int .i64 0, .int .i64 9]) (by simp [results, Tryd.results18, go_sem]) rfl ?_
                  rw [HQD.out]
                  exact ⟨rfl, HB6.out⟩
                · have HN := Lib.hid hz0
                  have g3 : ¬ ((R[j] : Nat) : Int) = 0 := by omega
                  have g3b : (((R[j] : Nat) : Int) == 0) = false := beq_false_of_ne g3
                  clear hz0
                  go_wp2_with fail
                  go_round
                  case rel => exact ⟨j + 1, by omega, by omega, by go_num, by rw [HSN.out]; exact mem_snocN (P := fun n => n ≠ 0) HNZ.out HN.out⟩
                  case measure => simp [intOf]; omega
              · have hany : j = R.length ∨ j = V := by omega
                have hnone : ¬ ((R.take V).any (· == 0)) = true := by
                  intro h
                  obtain ⟨y, hy, h0⟩ := List.any_eq_true.1 h
                  have hy2 : y ∈ R.take j := by
                    rcases hany with h | h
                    · rw [h, List.take_of_length_le (Nat.le_refl _)]; exact List.mem_of_mem_take hy
                    · rw [h]; exact hy
                  exact HNZ.out y hy2 (by simpa using h0)
                have hq := HQC.out
                unfold cntB at hq
                rw [if_neg hnone] at hq
                have HQD := Lib.hid hq
                clear hq hnone HQC
                by_cases hs : R.length < V
                · have hq := HQD.out
                  rw [if_pos hs] at hq
                  have HQE := Lib.hid hq
                  have hjl : j = R.length := by omega
                  have g1 : ¬ (j : Int) < (R.length : Int) := by omega
                  have g2 : (R.length : Int) < (V : Int) := by omega
                  clear hq hgo hany
                  go_wp2_with fail
                  refine bodyPost_ret (v := .tuple #[.string ⟨#[]⟩, .int .i64 0, .int .i64 8]) (by simp [results, Tryd.results18, go_sem]) rfl ?_
                  rw [HQE.out]
                  exact ⟨rfl, HB6.out⟩
                · have hq := HQD.out
                  rw [if_neg hs] at hq
                  have HQE := Lib.hid hq
                  have hjv2 : j = V := by omega
                  have hVR : V ≤ R.length := by omega
                  have hrt := HRR.out.head (n := V) hVR (by simp)
                  have hstr2 := run_str hrt
                  have hrc : R.length ≤ rc := by obtain ⟨_, _, _, e, h1, h2, _⟩ := HRR.out; simp only [Value.slice.injEq] at e; omega
                  have gV : (V : Int) ≤ (rc : Int) := by omega
                  have g2 : ¬ (R.length : Int) < (V : Int) := by omega
                  have hj2 : ¬ (j : Int) < (V : Int) := by omega
                  have HJ := Lib.hid hjv2
                  have hw1 : IntKind.i64.wrap ((k : Int) + 3) = (k : Int) + 3 := IntWalk.i64_in _ (by omega)
                  have hw2 : IntKind.i64.wrap ((k : Int) + 3 + (V : Int)) = (k : Int) + 3 + (V : Int) := IntWalk.i64_in _ (by omega)
                  clear hq hgo hany hrt hjv2 hs
                  by_cases hjr : j < R.length
                  · have g1 : (j : Int) < (R.length : Int) := by omega
                    clear hjr
                    go_wp2_with fail
                    refine bodyPost_ret (v := .tuple #[.string (strN (R.take V)), .int .i64 ((k : Int) + 3 + (V : Int)), .int .i64 0]) (by simp [results, Tryd.results18, go_sem]) rfl ?_
                    rw [HQE.out]
                    exact ⟨rfl, HB6.out⟩
                  · have g1 : ¬ (j : Int) < (R.length : Int) := by omega
                    clear hjr
                    go_wp2_with fail
                    refine bodyPost_ret (v := .tuple #[.string (strN (R.take V)), .int .i64 ((k : Int) + 3 + (V : Int)), .int .i64 0]) (by simp [results, Tryd.results18, go_sem]) rfl ?_
                    rw [HQE.out]
                    exact ⟨rfl, HB6.out⟩
        · rw [if_neg hv]
          rw [if_pos (show 16384 < V by omega)] at hq
          have HQB := Lib.hid hq
          clear hq
          go_wp2_with fail
          refine bodyPost_ret (v := .tuple #[.string ⟨#[]⟩, .int .i64 0, .int .i64 10]) (by simp [results, Tryd.results18, go_sem]) rfl ?_
          rw [HQB.out]
          exact ⟨rfl, HB6.out⟩
end Go.Proofs.YtghibofnfjnfcaaDoor
