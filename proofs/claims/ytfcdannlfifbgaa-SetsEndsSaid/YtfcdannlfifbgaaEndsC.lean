/-
  The walk of SetsEnds: the first part has the number not.
-/
import Derived.Test.YtfcdannlfifbgaaEndsL
namespace Go.Proofs.Ytfcdannlfifbgaa
set_option linter.unusedVariables false
open Go.RowKit

theorem RowR.dropE {w : World} {s : List (Int × Int)} {q : Nat} (a : Option Addr) (c : Nat) (hq : s.length ≤ q) (hc : c ≤ maxLen) (hn : a = none → c = 0) : RowR w (.slice a 0 c) (s.drop q) := by
  have e : s.drop q = [] := List.drop_of_length_le hq
  rw [e]
  exact ⟨⟨a, c, rfl, by simp, hc, by simp [rngs], fun h => ⟨rfl, hn h⟩, fun x hx j hj => by simp [rngs] at hj⟩, by simp⟩

set_option maxRecDepth 100000 in
set_option maxHeartbeats 40000000 in
theorem ends_c (a1 : Option Addr) (c1 : Nat) (vb : Value) (s : List (Int × Int)) (l : List Int) (n top cut : Int) (q : Nat) (w : World) (hs : RowR w (.slice a1 s.length c1) s) (hl : RowN w vb l) (n0 : 0 ≤ n) (n1 : n < 4294967296) (t0 : 0 ≤ top) (t1 : top < 4294967296)
    (hq : wrap64 ((IntKind.u64.wrap cut).tmod ((s.length : Int) + 1)) = (q : Int)) (hqm : q ≤ s.length) (hs1 : s.length ≤ 100) (hl1 : l.length ≤ 200) (hsel0 : 0 < s.length → (c1 = q → hasB s n top = false) ∧ (¬ c1 = q → hasB (s.take q) n top = false)) :
    Calls Try.prog 4 #[.slice a1 s.length c1, .int .u32 n, .int .u32 top, .int .i64 cut, vb] w fun e w' => e = .returned (.bool true) ∧ Below w.heap.size w w' := by
  have HS := Lib.hid hs
  have HL := Lib.hid hl
  have HQE := Lib.hid hq
  have hsel := Lib.hid hsel0
  clear hsel0
  obtain ⟨b1, o1, a', c', e', hc1, hm1, ha1, hce1⟩ := hs.shape
  simp only [Value.slice.injEq, true_and] at e'
  obtain ⟨rfl, rfl⟩ := e'
  obtain ⟨b2, o2, a2, c2, rfl, hc2, hm2, -, -⟩ := hl.shape
  have Ha := Lib.hid ha1
  have Hc := Lib.hid hce1
  have hd1 : decide (100 < (s.length : Int)) = false := by simp; omega
  have hd2 : decide (200 < (l.length : Int)) = false := by simp; omega
  clear hs hl ha1 hce1 hq
  go_enter Try.func4, Try.ntmps4
  go_wp2_with fail
  refine (awake_any _).mono ?_
  rintro e w1 ⟨rfl, hb1⟩
  have H1 := Lib.hid hb1
  have hz1 := hb1.size
  clear hb1
  go_wp2_with fail
  go_loopw [11, 12] (fun o i wr => ∃ k : Nat, k ≤ s.length ∧ i = .int .i64 k ∧ OwnR wr w1.heap.size o (swapL (s.take k)) ∧ Below w1.heap.size w1 wr) (fun _ i _ => s.length - (intOf i).toNat)
  case atStart => exact ⟨0, by omega, rfl, owns_nil _ _ _ _, Below.refl _ _⟩
  case round =>
    obtain ⟨k, hk, rfl, hown, hb⟩ := hrel
    have hB := hb.size
    by_cases hlt : k < s.length
    · obtain ⟨rfl, hbl⟩ := Ha.out (by omega)
      obtain ⟨hc0, hc1'⟩ := Hc.out k hlt
      have HA2 := Lib.hid (H1.out.trans (hb.mono hz1))
      have hq0 : wr.cell? ⟨b1, o1 + k * 2, none⟩ = some (.int .u32 s[k].1) := (HA2.out.cell (p := ⟨b1, o1 + k * 2, none⟩) hbl).trans hc0
      have hq1 : wr.cell? ⟨b1, o1 + k * 2 + 1, none⟩ = some (.int .u32 s[k].2) := (HA2.out.cell (p := ⟨b1, o1 + k * 2 + 1, none⟩) hbl).trans hc1'
      have HN := Lib.hid (swapL_snoc s k hlt)
      have HCC := Lib.hid (And.intro hc0 hc1')
      clear hc0 hc1'
      have hlim : (swapL (s.take k)).length + 1 ≤ 1000000 := by simp [swapL]; omega
      generalize s[k] = p at *
      obtain ⟨x, y⟩ := p
      simp only at hq0 hq1 HN HCC
      go_wp2_with fail
      go_region_held3 (fun w' => w'.cell? ⟨b1, o1 + k * 2, none⟩ = some (.int .u32 x) ∧ w'.cell? ⟨b1, o1 + k * 2 + 1, none⟩ = some (.int .u32 y)) (first | with_reducible exact kb | with_reducible exact ⟨hq0, hq1⟩ | go_keep)
        ((refine step_appRd rfl (.tmp 35) (.tmp 47) rfl (wr := wr) hown hb hB rfl rfl hlim ?_; intro o' w2 hown2 hb2; have HX := Lib.hid (H1.out.trans (hb2.mono hz1)); have kb : w2.cell? ⟨b1, o1 + k * 2, none⟩ = some (.int .u32 x) ∧ w2.cell? ⟨b1, o1 + k * 2 + 1, none⟩ = some (.int .u32 y) := ⟨(HX.out.cell (p := ⟨b1, o1 + k * 2, none⟩) hbl).trans HCC.out.1, (HX.out.cell (p := ⟨b1, o1 + k * 2 + 1, none⟩) hbl).trans HCC.out.2⟩))
      go_wp2_with fail
      go_roundw
      case rel => exact ⟨k + 1, by omega, by go_num, by rw [HN.out]; exact hown2, hb2⟩
      case measure => simp [intOf]; omega
    · have HE := Lib.hid (show s.take k = s from List.take_of_length_le (by omega))
      rw [HE.out] at hown
      have HO := Lib.hid hown
      have HB := Lib.hid hb
      clear hown hb
      have hq := HQE.out
      have HX := Lib.hid (hasB_parts s q n top)
      have HSW := Lib.hid (hasB_swap s n top)
      have hqc : q ≤ c1 := by omega
      have HP : Hid (Below w.heap.size w wr.drew) := Lib.hid (H1.out.trans (HB.out.mono hz1)).drew
      have HQ : Hid (Below wr.heap.size wr wr.drew) := Lib.hid (Below.refl _ _).drew
      have HT := Lib.hid (HO.out.row (swapL_bd HS.out.2))
      have hlt2 : (swapL s).length ≤ 1000000 := by simp [swapL]; omega
      have hlt3 : (s.take q).length ≤ 1000000 := by simp; omega
      have hlt4 : (s.drop q).length ≤ 1000000 := by simp; omega
      have hcase : (hasB (s.take q) n top = true ∧ hasB s n top = true ∧ hasB (swapL s) n top = true) ∨ (hasB (s.take q) n top = false ∧ hasB (s.drop q) n top = true ∧ hasB s n top = true ∧ hasB (swapL s) n top = true) ∨ (hasB (s.take q) n top = false ∧ hasB (s.drop q) n top = false ∧ hasB s n top = false ∧ hasB (swapL s) n top = false) := by
        rw [HSW.out, HX.out]
        cases hasB (s.take q) n top <;> cases hasB (s.drop q) n top <;> simp
      have HC := Lib.hid hcase
      clear hcase HX HSW
      go_wp2_with fail
      try rw [hq]
      clear hq
      go_cut [86] (fun b wx => b = .bool false ∧ Below w.heap.size w wx)
      case first =>
        by_cases hs0 : 0 < s.length
        · obtain ⟨rfl, hbl⟩ := Ha.out hs0
          by_cases hcq : c1 = q
          · have hx := (hsel.out hs0).1 hcq
            have ht : hasB (swapL s) n top = false := by rcases HC.out with ⟨_, hf, _⟩ | ⟨_, _, hf, _⟩ | ⟨_, _, _, ht⟩ <;> first | exact ht | (rw [hx] at hf; cases hf)
            have HE0 := Lib.hid (show hasB [] n top = false by simp [hasB])
            have HVX := Lib.hid hx
            have HVT := Lib.hid ht
            clear hx ht HC hsel
            obtain rfl : c1 = s.length := by omega
            subst hcq
            go_region_held3 (fun _ => True) (trivial)
              (first
                | (go_at_call 6; with_reducible refine (has_any (.slice (some ⟨b1, o1, none⟩) s.length s.length) s n top _ (HS.out.below HP.out) n0 n1 t0 t1 (by omega)).mono ?_; rintro e wn ⟨rfl, hb⟩; have HQ : Hid (Below wr.heap.size wr wn) := Lib.hid (HQ.out.trans (hb.mono HQ.out.size)); have HP : Hid (Below w.heap.size w wn) := Lib.hid (HP.out.trans (hb.mono HP.out.size)); clear hb; rw [HVX.out])
                | (go_at_call 6; with_reducible refine (has_any u11 (swapL s) n top _ (HT.out.below HQ.out) n0 n1 t0 t1 hlt2).mono ?_; rintro e wn ⟨rfl, hb⟩; have HQ : Hid (Below wr.heap.size wr wn) := Lib.hid (HQ.out.trans (hb.mono HQ.out.size)); have HP : Hid (Below w.heap.size w wn) := Lib.hid (HP.out.trans (hb.mono HP.out.size)); clear hb; rw [HVT.out])
                | (go_at_call 6; with_reducible refine (has_any (.slice (some ⟨b1, o1, none⟩) 0 0) [] n top _ (HS.out.end_.below HP.out) n0 n1 t0 t1 (by simp)).mono ?_; rintro e wn ⟨rfl, hb⟩; have HQ : Hid (Below wr.heap.size wr wn) := Lib.hid (HQ.out.trans (hb.mono HQ.out.size)); have HP : Hid (Below w.heap.size w wn) := Lib.hid (HP.out.trans (hb.mono HP.out.size)); clear hb; rw [HE0.out]))
            go_wp2_with fail
            go_meet
            exact ⟨rfl, HP.out⟩
          · have hv0 := (hsel.out hs0).2 hcq
            rcases HC.out with ⟨hv, hx, ht⟩ | ⟨hv, hz, hx, ht⟩ | ⟨hv, hz, hx, ht⟩
            · rw [hv0] at hv; cases hv
            all_goals
              have HV := Lib.hid hv
              have HVX := Lib.hid hx
              have HVT := Lib.hid ht
              have HVZ := Lib.hid hz
              clear hz hv hx ht HC hv0 hsel
              go_region_held3 (fun _ => True) (trivial)
                (first
                  | (go_at_call 6; with_reducible refine (has_any (.slice (some ⟨b1, o1, none⟩) s.length c1) s n top _ (HS.out.below HP.out) n0 n1 t0 t1 (by omega)).mono ?_; rintro e wn ⟨rfl, hb⟩; have HQ : Hid (Below wr.heap.size wr wn) := Lib.hid (HQ.out.trans (hb.mono HQ.out.size)); have HP : Hid (Below w.heap.size w wn) := Lib.hid (HP.out.trans (hb.mono HP.out.size)); clear hb; rw [HVX.out])
                  | (go_at_call 6; with_reducible refine (has_any u11 (swapL s) n top _ (HT.out.below HQ.out) n0 n1 t0 t1 hlt2).mono ?_; rintro e wn ⟨rfl, hb⟩; have HQ : Hid (Below wr.heap.size wr wn) := Lib.hid (HQ.out.trans (hb.mono HQ.out.size)); have HP : Hid (Below w.heap.size w wn) := Lib.hid (HP.out.trans (hb.mono HP.out.size)); clear hb; rw [HVT.out])
                  | (go_at_call 6; with_reducible refine (has_any (.slice (some ⟨b1, o1, none⟩) q c1) (s.take q) n top _ ((HS.out.take q hqm).below HP.out) n0 n1 t0 t1 hlt3).mono ?_; rintro e wn ⟨rfl, hb⟩; have HQ : Hid (Below wr.heap.size wr wn) := Lib.hid (HQ.out.trans (hb.mono HQ.out.size)); have HP : Hid (Below w.heap.size w wn) := Lib.hid (HP.out.trans (hb.mono HP.out.size)); clear hb; rw [HV.out])
                  | (go_at_call 6; with_reducible refine (has_any (.slice (some ⟨b1, o1 + q * 2, none⟩) (s.length - q) (c1 - q)) (s.drop q) n top _ ((HS.out.drop q hqm).below HP.out) n0 n1 t0 t1 hlt4).mono ?_; rintro e wn ⟨rfl, hb⟩; have HQ : Hid (Below wr.heap.size wr wn) := Lib.hid (HQ.out.trans (hb.mono HQ.out.size)); have HP : Hid (Below w.heap.size w wn) := Lib.hid (HP.out.trans (hb.mono HP.out.size)); clear hb; rw [HVZ.out]))
              go_wp2_with fail
              go_meet
              exact ⟨rfl, HP.out⟩
        · have hnil : s = [] := List.eq_nil_of_length_eq_zero (by omega)
          have HV := Lib.hid (show hasB (s.take q) n top = false by rw [hnil]; simp [hasB])
          have HVX := Lib.hid (show hasB s n top = false by rw [hnil]; simp [hasB])
          have HVT := Lib.hid (show hasB (swapL s) n top = false by rw [hnil]; simp [hasB, swapL])
          have HVZ := Lib.hid (show hasB (s.drop q) n top = false by rw [hnil]; simp [hasB])
          have hle : s.length ≤ q := by omega
          clear hnil HC Ha Hc
          cases a1 with
          | none =>
            have hc0 := HS.out.nilcap
            obtain rfl : c1 = q := by omega
            clear hc0
            first
              | (go_region_held3 (fun _ => True) (trivial)
                  (first
                    | (go_at_call 6; with_reducible refine (has_any (.slice none s.length c1) s n top _ (HS.out.below HP.out) n0 n1 t0 t1 (by omega)).mono ?_; rintro e wn ⟨rfl, hb⟩; have HQ : Hid (Below wr.heap.size wr wn) := Lib.hid (HQ.out.trans (hb.mono HQ.out.size)); have HP : Hid (Below w.heap.size w wn) := Lib.hid (HP.out.trans (hb.mono HP.out.size)); clear hb; rw [HVX.out])
                    | (go_at_call 6; with_reducible refine (has_any u11 (swapL s) n top _ (HT.out.below HQ.out) n0 n1 t0 t1 hlt2).mono ?_; rintro e wn ⟨rfl, hb⟩; have HQ : Hid (Below wr.heap.size wr wn) := Lib.hid (HQ.out.trans (hb.mono HQ.out.size)); have HP : Hid (Below w.heap.size w wn) := Lib.hid (HP.out.trans (hb.mono HP.out.size)); clear hb; rw [HVT.out])
                    | (go_at_call 6; with_reducible refine (has_any (.slice none c1 c1) (s.take c1) n top _ ((HS.out.take c1 hqm).below HP.out) n0 n1 t0 t1 hlt3).mono ?_; rintro e wn ⟨rfl, hb⟩; have HQ : Hid (Below wr.heap.size wr wn) := Lib.hid (HQ.out.trans (hb.mono HQ.out.size)); have HP : Hid (Below w.heap.size w wn) := Lib.hid (HP.out.trans (hb.mono HP.out.size)); clear hb; rw [HV.out])
                    | (go_at_call 6; with_reducible refine (has_any _ (s.drop c1) n top _ ?_ n0 n1 t0 t1 hlt4).mono ?_; (exact RowR.dropE none 0 hle (by omega) (fun _ => rfl)); rintro e wn ⟨rfl, hb⟩; have HQ : Hid (Below wr.heap.size wr wn) := Lib.hid (HQ.out.trans (hb.mono HQ.out.size)); have HP : Hid (Below w.heap.size w wn) := Lib.hid (HP.out.trans (hb.mono HP.out.size)); clear hb; rw [HVZ.out])))
            go_wp2_with fail
            go_meet
            exact ⟨rfl, HP.out⟩
          | some x =>
            obtain ⟨bx, ox, sp⟩ := x
            by_cases hcq : c1 = q
            · subst hcq
              first
                | (go_region_held3 (fun _ => True) (trivial)
                    (first
                      | (go_at_call 6; with_reducible refine (has_any (.slice (some ⟨bx, ox, sp⟩) s.length c1) s n top _ (HS.out.below HP.out) n0 n1 t0 t1 (by omega)).mono ?_; rintro e wn ⟨rfl, hb⟩; have HQ : Hid (Below wr.heap.size wr wn) := Lib.hid (HQ.out.trans (hb.mono HQ.out.size)); have HP : Hid (Below w.heap.size w wn) := Lib.hid (HP.out.trans (hb.mono HP.out.size)); clear hb; rw [HVX.out])
                      | (go_at_call 6; with_reducible refine (has_any u11 (swapL s) n top _ (HT.out.below HQ.out) n0 n1 t0 t1 hlt2).mono ?_; rintro e wn ⟨rfl, hb⟩; have HQ : Hid (Below wr.heap.size wr wn) := Lib.hid (HQ.out.trans (hb.mono HQ.out.size)); have HP : Hid (Below w.heap.size w wn) := Lib.hid (HP.out.trans (hb.mono HP.out.size)); clear hb; rw [HVT.out])
                      | (go_at_call 6; with_reducible refine (has_any (.slice (some ⟨bx, ox, sp⟩) c1 c1) (s.take c1) n top _ ((HS.out.take c1 hqm).below HP.out) n0 n1 t0 t1 hlt3).mono ?_; rintro e wn ⟨rfl, hb⟩; have HQ : Hid (Below wr.heap.size wr wn) := Lib.hid (HQ.out.trans (hb.mono HQ.out.size)); have HP : Hid (Below w.heap.size w wn) := Lib.hid (HP.out.trans (hb.mono HP.out.size)); clear hb; rw [HV.out])
                      | (go_at_call 6; with_reducible refine (has_any _ (s.drop c1) n top _ ?_ n0 n1 t0 t1 hlt4).mono ?_; (exact RowR.dropE (some ⟨bx, ox, sp⟩) 0 hle (by omega) (fun h => nomatch h)); rintro e wn ⟨rfl, hb⟩; have HQ : Hid (Below wr.heap.size wr wn) := Lib.hid (HQ.out.trans (hb.mono HQ.out.size)); have HP : Hid (Below w.heap.size w wn) := Lib.hid (HP.out.trans (hb.mono HP.out.size)); clear hb; rw [HVZ.out])))
              go_wp2_with fail
              go_meet
              exact ⟨rfl, HP.out⟩
            · skip
              first
                | (go_region_held3 (fun _ => True) (trivial)
                    (first
                      | (go_at_call 6; with_reducible refine (has_any (.slice (some ⟨bx, ox, sp⟩) s.length c1) s n top _ (HS.out.below HP.out) n0 n1 t0 t1 (by omega)).mono ?_; rintro e wn ⟨rfl, hb⟩; have HQ : Hid (Below wr.heap.size wr wn) := Lib.hid (HQ.out.trans (hb.mono HQ.out.size)); have HP : Hid (Below w.heap.size w wn) := Lib.hid (HP.out.trans (hb.mono HP.out.size)); clear hb; rw [HVX.out])
                      | (go_at_call 6; with_reducible refine (has_any u11 (swapL s) n top _ (HT.out.below HQ.out) n0 n1 t0 t1 hlt2).mono ?_; rintro e wn ⟨rfl, hb⟩; have HQ : Hid (Below wr.heap.size wr wn) := Lib.hid (HQ.out.trans (hb.mono HQ.out.size)); have HP : Hid (Below w.heap.size w wn) := Lib.hid (HP.out.trans (hb.mono HP.out.size)); clear hb; rw [HVT.out])
                      | (go_at_call 6; with_reducible refine (has_any (.slice (some ⟨bx, ox, sp⟩) q c1) (s.take q) n top _ ((HS.out.take q hqm).below HP.out) n0 n1 t0 t1 hlt3).mono ?_; rintro e wn ⟨rfl, hb⟩; have HQ : Hid (Below wr.heap.size wr wn) := Lib.hid (HQ.out.trans (hb.mono HQ.out.size)); have HP : Hid (Below w.heap.size w wn) := Lib.hid (HP.out.trans (hb.mono HP.out.size)); clear hb; rw [HV.out])
                      | (go_at_call 6; with_reducible refine (has_any _ (s.drop q) n top _ ?_ n0 n1 t0 t1 hlt4).mono ?_; (exact RowR.dropE (some (Addr.add ⟨bx, ox, sp⟩ (q * 2))) (c1 - q) hle (by omega) (fun h => nomatch h)); rintro e wn ⟨rfl, hb⟩; have HQ : Hid (Below wr.heap.size wr wn) := Lib.hid (HQ.out.trans (hb.mono HQ.out.size)); have HP : Hid (Below w.heap.size w wn) := Lib.hid (HP.out.trans (hb.mono HP.out.size)); clear hb; rw [HVZ.out])))
              go_wp2_with fail
              go_meet
              exact ⟨rfl, HP.out⟩
      case rest =>
        obtain ⟨rfl, hb⟩ := hcut
        have H5 := Lib.hid hb
        have HL5 := Lib.hid (HL.out.below hb)
        clear hb HC HP HQ HT HO HB HE
        go_wp2_with fail
        refine (rises_any _ l _ HL5.out (by omega)).mono ?_
        rintro e w6 ⟨hr, hb6⟩
        have H6 := Lib.hid (H5.out.trans (hb6.mono H5.out.size))
        clear hb6
        rcases hr with ⟨hup, rfl⟩ | ⟨hup, rfl⟩
        · have HPos := Lib.hid (hup.pos HL.out.2)
          have HG := Lib.hid (ofL_gaps hup)
          have HL6 := Lib.hid (HL.out.below H6.out)
          clear hup
          go_wp2_with fail
          refine (of_any _ l _ HL6.out HPos.out (by omega)).mono ?_
          rintro e w7 ⟨o, rfl, hown, hb7⟩
          have H7 := Lib.hid (H6.out.trans (hb7.mono H6.out.size))
          have hz7 := H7.out.size
          have HRB := Lib.hid (ofL_bd HL.out.2)
          have hol := ofL_len' l
          obtain ⟨b3, o3, a3, c3, rfl, hc3, hm3, ha3, hce3⟩ := (hown.row HRB.out).shape
          have Ha3 := Lib.hid ha3
          have Hc3 := Lib.hid hce3
          clear hb7 hown ha3 hce3
          go_wp2_with fail
          go_loopw [15] (fun i wx => ∃ j : Nat, j ≤ (ofL l).length ∧ i = .int .i64 j ∧ Below w7.heap.size w7 wx) (fun i _ => (ofL l).length - (intOf i).toNat)
          case atStart => exact ⟨0, by omega, rfl, Below.refl _ _⟩
          case round =>
            obtain ⟨j, hj, rfl, hbx⟩ := hrel
            by_cases hjl : j < (ofL l).length
            · obtain ⟨rfl, hb3l⟩ := Ha3.out (by omega)
              have hq0 : wr.cell? ⟨b3, o3 + j * 2, none⟩ = some (.int .u32 (ofL l)[j].1) := (hbx.cell (p := ⟨b3, o3 + j * 2, none⟩) hb3l).trans (Hc3.out j hjl).1
              have hq1 : wr.cell? ⟨b3, o3 + j * 2 + 1, none⟩ = some (.int .u32 (ofL l)[j].2) := (hbx.cell (p := ⟨b3, o3 + j * 2 + 1, none⟩) hb3l).trans (Hc3.out j hjl).2
              have hle : decide ((ofL l)[j].2 < (ofL l)[j].1) = false := by have := HG.out.1 j hjl; simp; omega
              have hbd := HRB.out _ (List.getElem_mem hjl)
              by_cases hj0 : 0 < j
              · have hjd : decide (0 < (j : Int)) = true := by simp; omega
                have hq2 : wr.cell? ⟨b3, o3 + (j - 1) * 2 + 1, none⟩ = some (.int .u32 ((ofL l)[j - 1]'(by omega)).2) := (hbx.cell (p := ⟨b3, o3 + (j - 1) * 2 + 1, none⟩) hb3l).trans (Hc3.out (j - 1) (by omega)).2
                have hbd2 := HRB.out _ (List.getElem_mem (show j - 1 < (ofL l).length by omega))
                have hgap : ((ofL l)[j - 1]'(by omega)).2 + 2 ≤ (ofL l)[j].1 := by have := HG.out.2 (j - 1) (by omega); simpa [Nat.sub_add_cancel hj0] using this
                have e1 : ((j : Int) - 1).toNat = j - 1 := by omega
                have hi1 : 0 ≤ (j : Int) - 1 := by omega
                have hi2 : (j : Int) - 1 < (ofL l).length := by omega
                have hw1 : IntKind.i64.wrap ((j : Int) - 1) = (j : Int) - 1 := IntWalk.i64_in _ (by omega)
                generalize (ofL l)[j] = p at *
                generalize (ofL l)[j - 1] = r at *
                obtain ⟨f, t⟩ := p
                obtain ⟨f', t'⟩ := r
                simp only at hq0 hq1 hq2 hle hbd hbd2 hgap
                have hw2 : IntKind.u32.wrap (f - t') = f - t' := IntWalk.u32_in _ (by omega)
                have hd3 : decide (f - t' < 2) = false := by simp; omega
                go_wp2_with fail
                go_quiet (fail)
                go_wp2_with fail
                go_roundw
                case rel => exact ⟨j + 1, by omega, by go_num, below_drewN hbx _⟩
                case measure => simp [intOf]; omega
              · have hjd : decide (0 < (j : Int)) = false := by simp; omega
                generalize (ofL l)[j] = p at *
                obtain ⟨f, t⟩ := p
                simp only at hq0 hq1 hle hbd
                go_wp2_with fail
                go_quiet (fail)
                go_wp2_with fail
                go_roundw
                case rel => exact ⟨j + 1, by omega, by go_num, below_drewN hbx _⟩
                case measure => simp [intOf]; omega
            · have H8 := Lib.hid (H7.out.trans (hbx.mono hz7))
              have HS8 := Lib.hid (HS.out.below H8.out)
              have HL8 := Lib.hid (HL.out.below H8.out)
              clear hbx
              go_wp2_with fail
              refine (pick_any _ _ s l _ HS8.out HL8.out (by omega) (by omega)).mono ?_
              rintro e w9 ⟨p1, rfl, hp1, hb9⟩
              have H9 := Lib.hid (H8.out.trans (hb9.mono H8.out.size))
              have HP1 := Lib.hid (hp1.row (pickL_bd HL.out.2))
              have hpl := pickL_len s l
              clear hb9 hp1
              go_wp2_with fail
              refine (of_any _ (pickL s l) _ HP1.out (pickL_pos HPos.out) (by omega)).mono ?_
              rintro e w10 ⟨q1, rfl, hq1, hb10⟩
              have H10 := Lib.hid (H9.out.trans (hb10.mono H9.out.size))
              have HQ1 := Lib.hid (hq1.row (ofL_bd (pickL_bd HL.out.2)))
              have HS10 := Lib.hid (HS.out.below H10.out)
              have HL10 := Lib.hid (HL.out.below H10.out)
              clear hb10 hq1
              go_wp2_with fail
              refine (rpick_any _ _ s l _ HS10.out HL10.out (by omega) (by omega)).mono ?_
              rintro e w11 ⟨p2, rfl, hp2, hb11⟩
              have H11 := Lib.hid (H10.out.trans (hb11.mono H10.out.size))
              have HP2 := Lib.hid (hp2.row (pickL_bd HL.out.2))
              have HQ11 := Lib.hid (HQ1.out.below hb11)
              clear hb11 hp2
              go_wp2_with fail
              refine (rof_any _ (pickL s l) _ HP2.out (pickL_pos HPos.out) (by omega)).mono ?_
              rintro e w12 ⟨q2, rfl, hq2, hb12⟩
              have H12 := Lib.hid (H11.out.trans (hb12.mono H11.out.size))
              have HQ2 := Lib.hid (hq2.row (ofL_bd (pickL_bd HL.out.2)))
              have HQ12 := Lib.hid (HQ11.out.below hb12)
              clear hb12 hq2
              go_wp2_with fail
              refine (plainR_any HQ12.out HQ2.out).mono ?_
              rintro e w13 ⟨rfl, hb13⟩
              have H13 := Lib.hid (H12.out.trans (hb13.mono H12.out.size))
              clear hb13
              simp only [decide_true]
              go_wp2_with fail
              go_ret
              exact ⟨rfl, H13.out⟩
        · go_wp2_with fail
          go_ret
          exact ⟨rfl, H6.out⟩

end Go.Proofs.Ytfcdannlfifbgaa
