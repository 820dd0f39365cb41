/-
  What Print prints Parse takes back.
-/
import Derived.Test.YthcgdbmcpnmeeaaDoorPrint
import Derived.Test.YthcgdbmcpnmeeaaDoorParse
namespace Go.Proofs.YthcgdbmcpnmeeaaDoor
set_option linter.unusedVariables false
open Go.RowKit Go.Lib

theorem dig_dg (a : Nat) (h : a < 10) : digB (dg a) = true := by
  have : ∀ a : Fin 10, digB (dg a.1) = true := by decide +kernel
  exact this ⟨a, h⟩
theorem digS1 {a : Nat} (ha : a < 10) : digS ⟨#[dg a]⟩ = true := by
  show ([dg a].all digB) = true
  simp [dig_dg a ha]
theorem digS2 {a b : Nat} (ha : a < 10) (hb : b < 10) : digS ⟨#[dg a, dg b]⟩ = true := by
  show ([dg a, dg b].all digB) = true
  simp [dig_dg a ha, dig_dg b hb]
theorem digS4 {a b c d : Nat} (ha : a < 10) (hb : b < 10) (hc : c < 10) (hd : d < 10) : digS ⟨#[dg a, dg b, dg c, dg d]⟩ = true := by
  show ([dg a, dg b, dg c, dg d].all digB) = true
  simp [dig_dg a ha, dig_dg b hb, dig_dg c hc, dig_dg d hd]
theorem val1 {a : Nat} (ha : a < 10) : valS ⟨#[dg a]⟩ = (a : Int) := by
  show valL [dg a] = _
  simp [valL, dg_nat a ha]; try omega
theorem val2 {a b : Nat} (ha : a < 10) (hb : b < 10) : valS ⟨#[dg a, dg b]⟩ = (a : Int) * 10 + b := by
  show valL [dg a, dg b] = _
  simp [valL, dg_nat a ha, dg_nat b hb]; try omega
theorem val4 {a b c d : Nat} (ha : a < 10) (hb : b < 10) (hc : c < 10) (hd : d < 10) : valS ⟨#[dg a, dg b, dg c, dg d]⟩ = (((a : Int) * 10 + b) * 10 + c) * 10 + d := by
  show valL [dg a, dg b, dg c, dg d] = _
  simp [valL, dg_nat a ha, dg_nat b hb, dg_nat c hc, dg_nat d hd]; try omega

theorem first_mk (dn : Nat) (hd : dn < 100) (p1 m0 m1 m2 y0 y1 y2 y3 h0 h1 i0 i1 s0 s1 sg a0 a1 b0 b1 : UInt8) :
    firstS (mk26 (padA 32 dn) p1 m0 m1 m2 y0 y1 y2 y3 h0 h1 i0 i1 s0 s1 sg a0 a1 b0 b1) = ⟨#[dg (dn / 10)]⟩ := by
  have he : (mk26 (padA 32 dn) p1 m0 m1 m2 y0 y1 y2 y3 h0 h1 i0 i1 s0 s1 sg a0 a1 b0 b1).extract 0 1 = ⟨#[padA 32 dn]⟩ := rfl
  unfold firstS
  rw [he]
  have ht : (⟨#[padA 32 dn]⟩ : ByteArray).toList = [padA 32 dn] := by rw [Go.ByteArray.toList_eq]
  rw [ht]
  unfold padA
  by_cases h10 : dn < 10
  · rw [if_pos h10, Nat.div_eq_of_lt h10]; rfl
  · rw [if_neg h10]
    have hne : ∀ a : Fin 10, ¬ (([dg a.1] : List UInt8) == [32]) = true := by decide +kernel
    rw [if_neg (hne ⟨dn / 10, by omega⟩)]

theorem fields_mk (dn : Nat) (hd : dn < 100) (p1 m0 m1 m2 y0 y1 y2 y3 h0 h1 i0 i1 s0 s1 sg a0 a1 b0 b1 : UInt8) :
    fieldsS (mk26 (padA 32 dn) p1 m0 m1 m2 y0 y1 y2 y3 h0 h1 i0 i1 s0 s1 sg a0 a1 b0 b1) = [⟨#[dg (dn / 10)]⟩, ⟨#[p1]⟩, ⟨#[y0, y1, y2, y3]⟩, ⟨#[h0, h1]⟩, ⟨#[i0, i1]⟩, ⟨#[s0, s1]⟩, ⟨#[a0, a1]⟩, ⟨#[b0, b1]⟩] := by
  unfold fieldsS
  rw [first_mk dn hd]
  rfl

theorem parse_print (y mo d h mi s z : Int) (yn mn dn hn mn2 sn : Nat) (hN : Nums y mo d h mi s yn mn dn hn mn2 sn) (w : World) (r : RightS y mo d h mi s z) :
    Calls Tryd.prog 12 #[.string (printB yn mn dn hn mn2 sn (sgn z) (z.natAbs / 60) (z.natAbs % 60))] w fun e w' => e = .returned (.tuple #[.agg #[.int .i64 y, .int .i64 mo, .int .i64 d, .int .i64 h, .int .i64 mi, .int .i64 s, .int .i64 z], .int .i64 0]) ∧ Below w.heap.size w w' := by
  have hr := r
  obtain ⟨a1, a2, a3, a4, a5, a6, a7, a8, a9, a10, a11, a12, a13, a14⟩ := r
  obtain ⟨rfl, rfl, rfl, rfl, rfl, rfl, n1, n2, n3, n4, n5, n6, n7⟩ := hN
  obtain ⟨q, hq⟩ : ∃ q, q = z.natAbs / 60 := ⟨_, rfl⟩
  obtain ⟨rr, hrr⟩ : ∃ q, q = z.natAbs % 60 := ⟨_, rfl⟩
  rw [← hq, ← hrr]
  have e1 : padB dn = dg (dn % 10) := rfl
  unfold printB
  rw [padA_zero, padA_zero, padA_zero, padA_zero, padA_zero]
  obtain ⟨S, hS⟩ : ∃ S, S = mk26 (padA 32 dn) (padB dn) (nmA mn) (nmB mn) (nmC mn) (yrA yn) (yrB yn) (yrC yn) (yrD yn) (dg (hn / 10)) (padB hn) (dg (mn2 / 10)) (padB mn2) (dg (sn / 10)) (padB sn) (sgn z) (dg (q / 10)) (padB q) (dg (rr / 10)) (padB rr) := ⟨_, rfl⟩
  rw [← hS]
  have hs : S.size = 26 := by rw [hS]; rfl
  have hf : fieldsS S = [⟨#[dg (dn / 10)]⟩, ⟨#[dg (dn % 10)]⟩, ⟨#[dg (yn / 1000), dg (yn / 100 % 10), dg (yn / 10 % 10), dg (yn % 10)]⟩, ⟨#[dg (hn / 10), dg (hn % 10)]⟩, ⟨#[dg (mn2 / 10), dg (mn2 % 10)]⟩, ⟨#[dg (sn / 10), dg (sn % 10)]⟩, ⟨#[dg (q / 10), dg (q % 10)]⟩, ⟨#[dg (rr / 10), dg (rr % 10)]⟩] := by rw [hS, fields_mk dn n4]; rfl
  have hmx : S.extract 3 6 = nameB mn := by rw [hS, nameB_L mn n3]; rfl
  have h21 : S[21] = sgn z := by subst hS; rfl
  have k2 : ((S[2].toNat : Int) != 45) = false := by subst hS; rfl
  have k6 : ((S[6].toNat : Int) != 45) = false := by subst hS; rfl
  have k11 : ((S[11].toNat : Int) != 32) = false := by subst hS; rfl
  have k14 : ((S[14].toNat : Int) != 58) = false := by subst hS; rfl
  have k17 : ((S[17].toNat : Int) != 58) = false := by subst hS; rfl
  have k20 : ((S[20].toNat : Int) != 32) = false := by subst hS; rfl
  clear hS
  have hq9 : q < 100 := by omega
  have hr9 : rr < 60 := by omega
  have hd2 : (dn : Int) = ((dn / 10 : Nat) : Int) * 10 + ((dn % 10 : Nat) : Int) := by omega
  have hh2 : (hn : Int) = ((hn / 10 : Nat) : Int) * 10 + ((hn % 10 : Nat) : Int) := by omega
  have hmi2 : (mn2 : Int) = ((mn2 / 10 : Nat) : Int) * 10 + ((mn2 % 10 : Nat) : Int) := by omega
  have hs2 : (sn : Int) = ((sn / 10 : Nat) : Int) * 10 + ((sn % 10 : Nat) : Int) := by omega
  have hqq : (q : Int) = ((q / 10 : Nat) : Int) * 10 + ((q % 10 : Nat) : Int) := by omega
  have hrr2 : (rr : Int) = ((rr / 10 : Nat) : Int) * 10 + ((rr % 10 : Nat) : Int) := by omega
  have hy2 : (yn : Int) = ((((yn / 1000 : Nat) : Int) * 10 + ((yn / 100 % 10 : Nat) : Int)) * 10 + ((yn / 10 % 10 : Nat) : Int)) * 10 + ((yn % 10 : Nat) : Int) := by omega
  have hv : (fieldsS S).map valS = [((dn / 10 : Nat) : Int), ((dn % 10 : Nat) : Int), (yn : Int), (hn : Int), (mn2 : Int), (sn : Int), (q : Int), (rr : Int)] := by
    rw [hf]
    simp only [List.map]
    rw [val1 (by omega), val1 (by omega), val4 (by omega) (by omega) (by omega) (by omega), val2 (by omega) (by omega), val2 (by omega) (by omega), val2 (by omega) (by omega), val2 (by omega) (by omega), val2 (by omega) (by omega), ← hy2, ← hh2, ← hmi2, ← hs2, ← hqq, ← hrr2]
  have hdg : ∀ f ∈ fieldsS S, digS f = true := by
    rw [hf]
    intro f hf
    simp only [List.mem_cons, List.not_mem_nil, or_false] at hf
    rcases hf with rfl | rfl | rfl | rfl | rfl | rfl | rfl | rfl
    · exact digS1 (by omega)
    · exact digS1 (by omega)
    · exact digS4 (by omega) (by omega) (by omega) (by omega)
    all_goals exact digS2 (by omega) (by omega)
  have h4 : ∀ f ∈ fieldsS S, f.size ≤ 4 := by
    rw [hf]
    intro f hf
    simp only [List.mem_cons, List.not_mem_nil, or_false] at hf
    rcases hf with rfl | rfl | rfl | rfl | rfl | rfl | rfl | rfl <;> exact Nat.le_of_ble_eq_true rfl
  have hsg : ∀ w, Calls Tryd.prog 24 #[.int .u8 (S[21].toNat : Int), .int .i64 q, .int .i64 rr] w fun e w' => e = .returned (.tuple #[.int .i64 z, .bool true]) ∧ w = w' := by
    intro w
    rw [h21]
    unfold sgn
    by_cases hz : z < 0
    · rw [if_pos hz, show z = -((q : Int) * 60 + rr) by omega]
      exact signed_minus q rr w (by omega) (by omega) (by omega) (by omega) (by omega)
    · rw [if_neg hz, show z = (q : Int) * 60 + rr by omega]
      exact signed_plus q rr w (by omega) (by omega) (by omega) (by omega)
  have hmo : ∀ w, Calls Tryd.prog 25 #[.string (S.extract 3 6)] w fun e w' => e = .returned (.int .i64 ((mn : Int) + 1)) ∧ Below w.heap.size w w' := fun w => by rw [hmx]; exact month_yes mn w n3
  have := parse_yes S w hs (yn : Int) ((mn : Int) + 1) ((dn / 10 : Nat) : Int) ((dn % 10 : Nat) : Int) hn mn2 sn q rr z k2 k6 k11 k14 k17 k20 hdg h4 hv hsg hmo (by omega) (by omega) (by rw [← hd2]; exact hr)
  rw [← hd2] at this
  exact this
end Go.Proofs.YthcgdbmcpnmeeaaDoor
