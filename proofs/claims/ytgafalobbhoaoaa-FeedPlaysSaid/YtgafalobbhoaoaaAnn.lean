/-
  The contract of announced, at any line.
-/
import Derived.Test.YtgafalobbhoaoaaFeedG
import Derived.Lib.MinMax
namespace Go.Proofs.Ytgafalobbhoaoaa
set_option linter.unusedVariables false
open Go.RowKit

theorem lastI_none {c : Nat} {l : List Nat} (h : lastI c l = none) : ∀ (i : Nat) (hi : i < l.length), l[i] ≠ c := by
  induction l with
  | nil => intro i hi; simp at hi
  | cons x l ih =>
    unfold lastI at h
    split at h
    · cases h
    · rename_i h1
      split at h
      · cases h
      · rename_i h2
        intro i hi
        cases i with
        | zero => exact h2
        | succ i => exact ih h1 i (by simpa using hi)
theorem lastI_some {c : Nat} {l : List Nat} {o : Nat} (h : lastI c l = some o) : ∃ h : o < l.length, l[o] = c ∧ ∀ (i : Nat) (hi : i < l.length), o < i → l[i] ≠ c := by
  induction l generalizing o with
  | nil => simp [lastI] at h
  | cons x l ih =>
    unfold lastI at h
    split at h
    · rename_i j h1
      obtain rfl := Option.some.inj h
      obtain ⟨a, b, d⟩ := ih h1
      refine ⟨by simpa using a, by simpa using b, fun i hi hlt => ?_⟩
      cases i with
      | zero => omega
      | succ i => exact d i (by simpa using hi) (by omega)
    · rename_i h1
      split at h
      · rename_i h2
        obtain rfl := Option.some.inj h
        refine ⟨by simp, h2, fun i hi hlt => ?_⟩
        cases i with
        | zero => omega
        | succ i => exact lastI_none h1 i (by simpa using hi)
      · cases h

set_option maxHeartbeats 1000000 in
theorem last_yes (v : Value) (l : List Nat) (c o : Nat) (w : World) (hr : RowB w v l) (hl : l.length ≤ 200000) (ho : lastI c l = some o) :
    Calls Try.prog 32 #[v, .int .u8 (c : Int)] w fun e w' => e = .returned (.int .i64 (o : Int)) ∧ w = w' := by
  obtain ⟨hol, hoc, hon⟩ := lastI_some ho
  rcases hr.shape with ⟨rfl, a, cap, rfl, hm⟩ | ⟨b, off, cap, rfl, h0, h1, h2, hcell⟩
  · simp at hol
  · have HC := Lib.hid hcell
    have HN := Lib.hid hon
    have HO := Lib.hid hoc
    clear hcell hon hr ho hoc
    go_enter Try.func32, Try.ntmps32
    go_wp2_with fail
    go_loop [5] (fun i => ∃ k : Nat, o + 1 ≤ k ∧ k ≤ l.length ∧ i = .int .i64 ((k : Int) - 1)) (fun i => (intOf i + 1).toNat)
    case atStart => exact ⟨l.length, by omega, Nat.le_refl _, rfl⟩
    case round =>
      obtain ⟨k, hko, hk, rfl⟩ := hrel
      have hc := HC.out (k - 1) (by omega)
      have e1 : ((k : Int) - 1).toNat = k - 1 := by omega
      have hi1 : 0 ≤ (k : Int) - 1 := by omega
      obtain ⟨x, hx0⟩ : ∃ x, l[k - 1]'(by omega) = x := ⟨_, rfl⟩
      rw [hx0] at hc
      by_cases hkk : k = o + 1
      · have hx1 : x = c := by
          have h1 := HO.out
          subst hkk
          rw [← hx0]
          simpa using h1
        have hx : ((x : Int) == (c : Int)) = true := by simp [hx1]
        have hk1 : (k : Int) - 1 = (o : Int) := by omega
        have HK1 := Lib.hid hk1
        clear hkk hk1 hx1 hx0
        go_wp2_with fail
        go_ret
        exact ⟨ret_eq (show Value.int .i64 ((k : Int) - 1) = _ by rw [HK1.out]), rfl⟩
      · have hx : ((x : Int) == (c : Int)) = false := by
          have := HN.out (k - 1) (by omega) (by omega)
          rw [hx0] at this
          simp; omega
        clear hx0
        go_wp2_with fail
        go_round
        case rel => exact ⟨k - 1, by omega, by omega, congrArg (Value.int .i64) (by omega)⟩
        case measure => simp [intOf]; omega

theorem lastIndex_yes (v : Value) (l : List Nat) (c o : Nat) (w : World) (hr : RowB w v l) (hl : l.length ≤ 200000) (ho : lastI c l = some o) :
    Calls Try.prog 30 #[v, .int .u8 (c : Int)] w fun e w' => e = .returned (.int .i64 (o : Int)) ∧ w = w' := by
  have HO := Lib.hid ho
  clear ho
  go_enter Try.func30, Try.ntmps30
  go_wp2_with fail
  refine (last_yes v l c o _ hr hl HO.out).mono ?_
  rintro e w1 ⟨rfl, rfl⟩
  go_wp2_with fail
  go_ret
  exact ⟨rfl, rfl⟩

/-- a part of a row -/
theorem row_part {w : World} {g off n cap : Nat} {l : List Nat} (hc : ∀ i, (h : i < l.length) → w.cell? ⟨g, off + i, none⟩ = some (.int .u8 (l[i] : Nat))) (hw : ∀ n ∈ l, n < 256) (i m c : Nat) (him : i + m ≤ l.length) (hmc : m ≤ c) (hcm : c ≤ maxLen) :
    RowB w (.slice (some ⟨g, off + i, none⟩) m c) ((l.drop i).take m) := by
  have hlen : ((l.drop i).take m).length = m := by simp; omega
  refine ⟨_, _, _, rfl, hlen, hmc, hcm, fun n hn => hw n (List.mem_of_mem_drop (List.mem_of_mem_take hn)), by simp, fun x hx k hk => ?_⟩
  obtain rfl := Option.some.inj hx
  rw [Addr.add_lit, Nat.add_assoc, hc (i + k) (by omega)]
  simp

/-- what announced answers -/
def annV : Option Nat → Value
  | some n => .tuple #[.int .i64 (n : Int), .bool true]
  | none => .tuple #[.int .i64 0, .bool false]

theorem capv_snoc (l : List Nat) (c : Nat) : capv (l ++ [c]) = min (capv l * 10 + (c - 48)) 16385 := by simp [capv, List.foldl_append]
theorem capv_le (l : List Nat) : capv l ≤ 16385 := by
  have h : ∀ (l : List Nat) (n : Nat), n ≤ 16385 → l.foldl (fun n c => min (n * 10 + (c - 48)) 16385) n ≤ 16385 := by
    intro l
    induction l with
    | nil => intro n hn; exact hn
    | cons c r ih => intro n hn; exact ih _ (Nat.min_le_right _ _)
  exact h l 0 (by omega)

/-- the two tests of a length's digits, as the walk asks them -/
theorem fit_no {d : List Nat} (h : fitB d = false) : d.length = 0 ∨ 10 < d.length ∨ (1 < d.length ∧ d.length ≤ 10 ∧ hd0 d = 48) := by
  unfold fitB at h
  have h' := of_decide_eq_false h
  omega
theorem fit_yes {d : List Nat} (h : fitB d = true) : 0 < d.length ∧ d.length ≤ 10 ∧ (hd0 d ≠ 48 ∨ d.length = 1) := by
  unfold fitB at h
  have h' := of_decide_eq_true h
  omega

set_option maxRecDepth 100000 in
set_option maxHeartbeats 4000000 in
theorem announced_any (p : Nat) (f r : Value) (g cc q n : Nat) (len lits left a : Int) (H L : List Nat) (w : World) (hf : FeedB w p f r (.slice (some ⟨g, 0, none⟩) (q + n + 2) (q + cc)) (q : Int) len lits left a) (hlen : H.length = q + n + 2)
    (hh : OwnB w 0 (.slice (some ⟨g, 0, none⟩) (q + n + 2) (q + cc)) H) (hb : ∀ n ∈ H, n < 256) (hL : L = (H.drop q).take n) (hs : q + n + 2 ≤ 200000) :
    Calls Try.prog 28 #[.pointer (some ⟨p, 0, none⟩)] w fun e w' => e = .returned (annV (annP L)) ∧ Below w.heap.size w w' := by
  obtain ⟨c0, c1, c2, c3, c4, c5, c6, c7, x0, x1, x2, x3, x4, x5, x6, x7⟩ := hf.at
  obtain ⟨_, _, _, e0, e1, e2, e3, e4, e5, e6⟩ := (show OwnB w 0 (.slice (some ⟨g, 0, none⟩) H.length (q + cc)) H by rw [hlen]; exact hh).row hb
  simp only [Value.slice.injEq] at e0
  obtain ⟨rfl, rfl, rfl⟩ := e0
  have hcell : ∀ i, (h : i < H.length) → w.cell? ⟨g, i, none⟩ = some (.int .u8 (H[i] : Nat)) := fun i hi => by
    have := e6 _ rfl i hi
    rwa [Addr.add_lit, Nat.zero_add] at this
  have hlenL : L.length = n := by rw [hL]; simp; omega
  have hLb : ∀ n ∈ L, n < 256 := by rw [hL]; exact fun n hn => hb n (List.mem_of_mem_drop (List.mem_of_mem_take hn))
  have hcL : ∀ i, (h : i < L.length) → w.cell? ⟨g, q + i, none⟩ = some (.int .u8 (L[i] : Nat)) := by
    intro i hi
    have h1 : i < n := by omega
    rw [hcell (q + i) (by omega)]
    subst hL
    simp
  have hcm : q + cc ≤ maxLen := e3
  have hnc : n + 2 ≤ cc := by omega
  have HROW : Hid (∀ i m c, i + m ≤ n → m ≤ c → c ≤ maxLen → ∀ k, RowB (w.drewN k) (.slice (some ⟨g, q + i, none⟩) m c) ((L.drop i).take m)) := Lib.hid (fun i m c h1 h2 h3 k => row_part (n := 0) (cap := 0) (fun i hi => hcL i hi) hLb i m c (by omega) h2 h3)
  have HLEN := Lib.hid hlenL
  have HLB := Lib.hid hLb
  have HC := Lib.hid hcL
  have hw1 : IntKind.i64.wrap (((q + n + 2 : Nat) : Int) - 2) = ((q + n : Nat) : Int) := by rw [IntWalk.i64_in _ (by omega)]; omega
  have hw1' : IntKind.i64.wrap (((q : Int) + (n : Int) + 2) - 2) = ((q + n : Nat) : Int) := by rw [IntWalk.i64_in _ (by omega)]; omega
  have hi1 : ((q + n : Nat) : Int) ≤ ((q + cc : Nat) : Int) := by omega
  have hi0 : (q : Int) ≤ ((q + n : Nat) : Int) := by omega
  have hcc : ¬ cc = 0 := by omega
  clear hf hh hb hL e1 e2 e3 e4 e5 e6 hcell hlenL hLb hcL hlen
  go_enter Try.func28, Try.ntmps28
  go_wp2_with fail
  go_quiet (fail)
  go_wp2_with fail
  clear c0 c1 c2 c3 c4 c5 c6 c7 x0 x1 x2 x3 x4 x5 x6 x7 hw1 hw1' hi1 hi0
  by_cases hl : lastI 123 L = none
  · have hA : annP L = none := by unfold annP; rw [hl]
    have HA := Lib.hid hA
    have HN := lastI_none hl
    clear hl hA
    have hrow := HROW.out 0 n cc (by omega) (by omega) (by omega) nq
    rw [List.drop_zero, List.take_of_length_le (by rw [HLEN.out]; exact Nat.le_refl _)] at hrow
    refine (lastIndex_no _ L 123 _ hrow (by rw [HLEN.out]; omega) (fun i hi => by have := HN i hi; simp; omega)).mono ?_
    rintro e w1 ⟨rfl, rfl⟩
    go_wp2_with fail
    exact bodyPost_ret (v := .tuple #[.int .i64 0, .bool false]) (by simp [results, Try.results28, go_sem]) rfl ⟨by rw [HA.out]; rfl, below_drewN (Below.refl _ _) _⟩
  · obtain ⟨o, ho⟩ : ∃ o, lastI 123 L = some o := by
      cases h : lastI 123 L with
      | none => exact absurd h hl
      | some o => exact ⟨o, rfl⟩
    clear hl
    have HO := Lib.hid ho
    obtain ⟨hol, hoc, hon⟩ := lastI_some ho
    have hon' : o < n := by have := HLEN.out; omega
    have hrow := HROW.out 0 n cc (by omega) (by omega) (by omega) nq
    rw [List.drop_zero, List.take_of_length_le (by rw [HLEN.out]; exact Nat.le_refl _)] at hrow
    refine (lastIndex_yes _ L 123 o _ hrow (by rw [HLEN.out]; omega) ho).mono ?_
    rintro e w1 ⟨rfl, rfl⟩
    clear ho
    have hlast : ((w.drewN nq).cell? ⟨g, q + (n - 1), none⟩ = some (.int .u8 ((L.getD (n - 1) 0 : Nat) : Int))) := by
      have := HC.out (n - 1) (by have := HLEN.out; omega)
      have h2 : L.getD (n - 1) 0 = L[n - 1]'(by have := HLEN.out; omega) := by simp [List.getD, List.getElem?_eq_getElem (show n - 1 < L.length by have := HLEN.out; omega)]
      rw [h2]
      exact this
    obtain ⟨z, hz⟩ : ∃ z, L.getD (n - 1) 0 = z := ⟨_, rfl⟩
    rw [hz] at hlast
    obtain ⟨n1, hn1⟩ : ∃ n1, n = n1 + 1 := ⟨n - 1, by omega⟩
    subst hn1
    have hwn : IntKind.i64.wrap (((n1 + 1 : Nat) : Int) - 1) = (n1 : Int) := by rw [IntWalk.i64_in _ (by omega)]; omega
    have hwn' : IntKind.i64.wrap (((n1 : Int) + 1) - 1) = (n1 : Int) := by rw [IntWalk.i64_in _ (by omega)]; omega
    have hni : (n1 : Int) < ((n1 + 1 : Nat) : Int) := by omega
    rw [Nat.add_sub_cancel] at hlast hz
    by_cases h125 : z = 125
    · have hzn : ((z : Int) != 125) = false := by simp [h125]
      have hon1 : o < n1 := by
        rcases Nat.lt_or_ge o n1 with h | h
        · exact h
        · exfalso
          have ho1 : o = n1 := by omega
          subst ho1
          have : L.getD o 0 = 123 := by simp [List.getD, List.getElem?_eq_getElem hol, hoc]
          omega
      obtain ⟨D, hD⟩ : ∃ D, D = (L.drop (o + 1)).take (n1 - (o + 1)) := ⟨_, rfl⟩
      obtain ⟨dn, hdn⟩ : ∃ dn, n1 = o + 1 + dn := ⟨n1 - (o + 1), by omega⟩
      subst hdn
      have hDl : D.length = dn := by rw [hD]; have := HLEN.out; simp; omega
      have hA : annP L = annD D := by
        unfold annP
        rw [HO.out]
        simp only
        rw [HLEN.out, Nat.add_sub_cancel, hz, if_pos h125, hD]
      have HA := Lib.hid hA
      obtain ⟨ce, hce⟩ : ∃ ce, cc = o + 1 + ce := ⟨cc - (o + 1), by omega⟩
      subst hce
      have hDrow : RowB (w.drewN nq) (.slice (some ⟨g, q + (o + 1), none⟩) dn ce) D := by
        have := HROW.out (o + 1) dn ce (by omega) (by omega) (by omega) nq
        rw [hD]
        have e : o + 1 + dn - (o + 1) = dn := by omega
        rw [e]
        exact this
      have hwo : IntKind.i64.wrap ((o : Int) + 1) = ((o + 1 : Nat) : Int) := by rw [IntWalk.i64_in _ (by omega)]; omega
      have hce0 : ¬ ce = 0 := by omega
      have HDR := Lib.hid hDrow
      have HDL := Lib.hid hDl
      have ho0 : decide ((o : Int) < 0) = false := by simp
      clear hA h125 hrow hoc hon hz hD hDrow hDl
      have hcD : ∀ i, (h : i < D.length) → (w.drewN nq).cell? ⟨g, q + (o + 1) + i, none⟩ = some (.int .u8 (D[i] : Nat)) := fun i hi => by
        obtain ⟨_, _, _, e0, _, _, _, _, _, e6⟩ := HDR.out
        simp only [Value.slice.injEq] at e0
        obtain ⟨rfl, rfl, rfl⟩ := e0
        have := e6 _ rfl i hi
        rwa [Addr.add_lit] at this
      have HCD := Lib.hid hcD
      have hDb : ∀ n ∈ D, n < 256 := HDR.out.lt
      have HDB := Lib.hid hDb
      clear hcD hDb
      by_cases hdn0 : dn = 0
      · subst hdn0
        have hf : annD D = none := by unfold annD; rw [if_neg]; rintro ⟨h, _⟩; have := fit_yes h; have := HDL.out; omega
        have HF := Lib.hid hf
        clear hf
        go_wp2_with fail
        exact bodyPost_ret (v := .tuple #[.int .i64 0, .bool false]) (by simp [results, Try.results28, go_sem]) rfl ⟨by rw [HA.out, HF.out]; rfl, below_drewN (Below.refl _ _) _⟩
      have hdz : ((dn : Int) == 0) = false := by simp; omega
      by_cases hd10 : 10 < dn
      · have hf : annD D = none := by unfold annD; rw [if_neg]; rintro ⟨h, _⟩; have := fit_yes h; have := HDL.out; omega
        have HF := Lib.hid hf
        have hd10' : decide (10 < (dn : Int)) = true := by simp; omega
        clear hf
        go_wp2_with fail
        exact bodyPost_ret (v := .tuple #[.int .i64 0, .bool false]) (by simp [results, Try.results28, go_sem]) rfl ⟨by rw [HA.out, HF.out]; rfl, below_drewN (Below.refl _ _) _⟩
      have hd10' : decide (10 < (dn : Int)) = false := by simp; omega
      have hdpos : 0 < dn := by omega
      obtain ⟨y, hy⟩ : ∃ y, hd0 D = y := ⟨_, rfl⟩
      have hcy : (w.drewN nq).cell? ⟨g, q + (o + 1), none⟩ = some (.int .u8 (y : Int)) := by
        have h0 : 0 < D.length := by have := HDL.out; omega
        have := HCD.out 0 h0
        rw [Nat.add_zero] at this
        rw [this, ← hy]
        simp [hd0, List.getD, List.getElem?_eq_getElem h0]
      by_cases hlead : y = 48 ∧ 1 < dn
      · have hf : annD D = none := by unfold annD; rw [if_neg]; rintro ⟨h, _⟩; have := fit_yes h; have := HDL.out; omega
        have HF := Lib.hid hf
        have hy48 : ((y : Int) == 48) = true := by simp; omega
        have hd1 : decide (1 < (dn : Int)) = true := by simp; omega
        clear hf hy
        go_wp2_with fail
        exact bodyPost_ret (v := .tuple #[.int .i64 0, .bool false]) (by simp [results, Try.results28, go_sem]) rfl ⟨by rw [HA.out, HF.out]; rfl, below_drewN (Below.refl _ _) _⟩
      have hfit : fitB D = true := by
        unfold fitB
        have := HDL.out
        exact decide_eq_true ⟨by omega, by omega, by omega⟩
      have HFIT := Lib.hid hfit
      clear hfit
      have hcases : (((y : Int) == 48) = false ∨ (((y : Int) == 48) = true ∧ decide (1 < (dn : Int)) = false)) := by
        by_cases h : y = 48
        · right; simp [h]; omega
        · left; simp; omega
      have HCS := Lib.hid hcases
      clear hcases hlead hy
      rcases HCS.out with hy1 | ⟨hy1, hy2⟩
      all_goals
        clear HCS
        go_wp2_with fail
        go_loop [7, 66] (fun n i => ∃ k : Nat, k ≤ dn ∧ i = .int .i64 (k : Int) ∧ n = .int .i64 ((capv (D.take k) : Nat) : Int) ∧ (D.take k).all isD = true) (fun _ i => dn - (intOf i).toNat)
        case atStart => exact ⟨0, Nat.zero_le _, rfl, rfl, rfl⟩
        case round =>
          obtain ⟨k, hk, rfl, rfl, hall⟩ := hrel
          have hcap := capv_le (D.take k)
          by_cases hlt : k < dn
          · have hkD : k < D.length := by have := HDL.out; omega
            have hck := HCD.out k hkD
            have htk : D.take (k + 1) = D.take k ++ [D[k]] := List.take_succ_eq_append_getElem hkD
            have hxb := HDB.out D[k] (List.getElem_mem hkD)
            obtain ⟨x, hx⟩ : ∃ x, D[k] = x := ⟨_, rfl⟩
            rw [hx] at hck htk hxb
            by_cases hdig : 48 ≤ x ∧ x ≤ 57
            · obtain ⟨t, ht⟩ : ∃ t : Nat, t = x - 48 := ⟨_, rfl⟩
              have hx48 : ((x : Int) - 48) = (t : Int) := by omega
              have hd1 : decide ((x : Int) < 48) = false := by simp; omega
              have hd2 : decide (57 < (x : Int)) = false := by simp; omega
              have hcn := capv_snoc (D.take k) x
              have hal : (D.take (k + 1)).all isD = true := by rw [htk, List.all_append, hall]; simp [isD]; omega
              obtain ⟨cv, hcv⟩ : ∃ cv, capv (D.take k) = cv := ⟨_, rfl⟩
              rw [hcv] at hcap hcn
              rw [hcv]
              have HH := Lib.hid (And.intro hcn (And.intro htk hal))
              have HT := Lib.hid ht
              clear hcn htk hal hcv hx ht hall
              go_wp2_with fail
              go_round
              case rel => exact ⟨k + 1, by omega, by go_num, congrArg (Value.int .i64) (by rw [HH.out.2.1, HH.out.1, ← HT.out]; omega), HH.out.2.2⟩
              case measure => simp [intOf]; omega
            · have hf : annD D = none := by
                unfold annD
                rw [if_neg]
                rintro ⟨_, h⟩
                have := List.all_eq_true.1 h D[k] (List.getElem_mem hkD)
                rw [hx] at this
                simp [isD] at this
                omega
              have HF := Lib.hid hf
              have hcs : (decide ((x : Int) < 48) = true ∨ (decide ((x : Int) < 48) = false ∧ decide (57 < (x : Int)) = true)) := by
                by_cases h : x < 48
                · left; simp; omega
                · right; simp; omega
              have HCX := Lib.hid hcs
              clear hf hx hcs hdig hall htk
              rcases HCX.out with h1 | ⟨h1, h2⟩
              all_goals
                clear HCX
                go_wp2_with fail
                exact bodyPost_ret (v := .tuple #[.int .i64 0, .bool false]) (by simp [results, Try.results28, go_sem]) rfl ⟨by rw [HA.out, HF.out]; rfl, below_drewN (Below.refl _ _) _⟩
          · have hkd : k = dn := by omega
            have hf : annD D = some (capv D) := by
              unfold annD
              rw [if_pos]
              refine ⟨HFIT.out, ?_⟩
              rw [hkd, List.take_of_length_le (by rw [HDL.out]; exact Nat.le_refl _)] at hall
              exact hall
            have htk : D.take k = D := by rw [hkd, List.take_of_length_le (by rw [HDL.out]; exact Nat.le_refl _)]
            rw [htk]
            rw [htk] at hcap
            have HF := Lib.hid hf
            clear hf htk hkd hall
            go_wp2_with fail
            exact bodyPost_ret (v := .tuple #[.int .i64 ((capv D : Nat) : Int), .bool true]) (by simp [results, Try.results28, go_sem]) rfl ⟨by rw [HA.out, HF.out]; rfl, below_drewN (Below.refl _ _) _⟩
    · have hA : annP L = none := by
        unfold annP
        rw [HO.out]
        simp only
        rw [HLEN.out, Nat.add_sub_cancel, hz, if_neg h125]
      have HA := Lib.hid hA
      have hzn : ((z : Int) != 125) = true := by simp; omega
      clear hA h125 hrow hoc hon hz
      go_wp2_with fail
      exact bodyPost_ret (v := .tuple #[.int .i64 0, .bool false]) (by simp [results, Try.results28, go_sem]) rfl ⟨by rw [HA.out]; rfl, below_drewN (Below.refl _ _) _⟩
end Go.Proofs.Ytgafalobbhoaoaa
