/-
  The program's put: sixteen bits more.
-/
import Derived.Test.YtcddppgnmephnaaDoorRune
import Derived.Laws.BitsAllLaws
import Derived.StillTailTactics
namespace Go.Proofs.YtcddppgnmephnaaDoor
set_option linter.unusedVariables false
open Go.RowKit Go.Lib

theorem or16 (a u : Nat) (ha : a < 65536) (hu : u < 65536) : bits .or .u32 ((a : Int) * 65536 % 4294967296) (u : Int) = ((a * 65536 + u : Nat) : Int) := by
  have e : ((a : Int) * 65536 % 4294967296) = ((a * 65536 : Nat) : Int) := by omega
  rw [e, u32_or_nat _ _ (by omega) (by omega)]
  congr 1
  have := Nat.two_pow_add_eq_or_of_lt (i := 16) (b := u) (by omega) a
  rw [show a * 65536 = 2 ^ 16 * a by omega]
  exact this.symm
theorem and63 (x : Nat) (hx : x < 4294967296) : bits .and .u32 (x : Int) 63 = ((x % 64 : Nat) : Int) := by
  have h := u32_and_nat x 63 hx (by decide)
  have := Nat.and_two_pow_sub_one_eq_mod x 6
  rw [show (63 : Int) = ((63 : Nat) : Int) from rfl, h]
  congr 1

/-- a digit as the program indexes it -/
theorem digS_at (k : Nat) (hk : k < 64) : digS[k]? = some (digit k) := by
  have : k < digS.length := hk
  simp [digit, List.getD, List.getElem?_eq_getElem this]

theorem dig_str (k : Nat) (hk : k < 64) : (((⟨#[65, 66, 67, 68, 69, 70, 71, 72, 73, 74, 75, 76, 77, 78, 79, 80, 81, 82, 83, 84, 85, 86, 87, 88, 89, 90, 97, 98, 99, 100, 101, 102, 103, 104, 105, 106, 107, 108, 109, 110, 111, 112, 113, 114, 115, 116, 117, 118, 119, 120, 121, 122, 48, 49, 50, 51, 52, 53, 54, 55, 56, 57, 43, 44]⟩ : ByteArray)[k]'hk).toNat : Int) = ((digit k).toNat : Int) := by
  congr 2
  have h := digS_at k hk
  obtain ⟨_, h2⟩ := List.getElem?_eq_some_iff.1 h
  exact h2

set_option maxHeartbeats 1000000 in
set_option maxRecDepth 100000 in
theorem put_any (p B : Nat) (W : Wr) (u : Nat) (hu : u < 65536) (w : World) (h : WrAt w p B W) (hg : W.Good) (hl : W.out.length + 3 ≤ 1000000) :
    Calls Tryd.prog 39 #[.pointer (some ⟨p, 0, none⟩), .int .u32 (u : Int)] w fun e w' => e = .returned (.tuple #[]) ∧ WrAt w' p B (putS W u) ∧ Fr B p w w' := by
  obtain ⟨a, v, ha, hc⟩ := h
  obtain ⟨c0, c1, c2, c3, c4, x0, x1, x2, x3, x4, hsh⟩ := hc.at
  have H := Lib.hid hc
  clear hc hsh
  have hacc : W.acc < 16 := by rcases hg.bits with h | h | h <;> omega
  have hbits : W.bits ≤ 4 := by rcases hg.bits with h | h | h <;> omega
  have hV : bits .or .u32 ((W.acc : Int) * 65536) (u : Int) = ((W.acc * 65536 + u : Nat) : Int) := by
    rw [← or16 W.acc u (by omega) hu]
    congr 1
    omega
  have hb : (W.bits : Int) + 16 = ((W.bits + 16 : Nat) : Int) := by omega
  have hVlt : W.acc * 65536 + u < 1048576 := by omega
  obtain ⟨V, hVe⟩ : ∃ V, V = W.acc * 65536 + u := ⟨_, rfl⟩
  obtain ⟨n, hn⟩ : ∃ n, n = W.bits + 16 := ⟨_, rfl⟩
  have hps : putS W u = { W with out := W.out ++ ems V 3 n, acc := V % 2 ^ (n % 6), bits := n % 6 } := by rw [hVe, hn]; rfl
  rw [hps]
  rw [← hVe] at hV hVlt
  rw [← hn] at hb
  have hn2 : n = 16 ∨ n = 18 ∨ n = 20 := by rcases hg.bits with h | h | h <;> omega
  have HQ := Lib.hid (And.intro hn hVe)
  clear hps hn hVe
  go_enter Tryd.func39, Tryd.ntmps39
  go_wp2
  clear hV hb c0 c1 c2 c3 c4 x0 x1 x2 x3 x4
  go_loopw [] (fun wr => ∃ (b f : Nat) (o : List UInt8), WrAt wr p B { W with out := o, acc := V, bits := b } ∧ Fr B p w wr ∧ o ++ ems V f b = W.out ++ ems V 3 n ∧ b ≤ 6 * f + 5 ∧ b % 6 = n % 6 ∧ o.length + f ≤ W.out.length + 3 ∧ b ≤ 20) (fun wr => (intOf ((wr.cell? ⟨p, 4, none⟩).getD undef)).toNat)
  case atStart =>
    exact ⟨n, 3, W.out, ⟨a, v, ha, (H.out.set3 V).set4 n⟩, ((Fr.refl B p w).set H.out.base _).set H.out.base _, rfl, by omega, rfl, by omega, by omega⟩
  case round =>
    obtain ⟨b, f, o, hA, hF, he, hbf, hb6, hol, hb20⟩ := hrel
    obtain ⟨a1, v1, ha1, hc1⟩ := hA
    obtain ⟨c0, c1, c2, c3, c4, x0, x1, x2, x3, x4, hsh⟩ := hc1.at
    simp only at c3 c4
    by_cases hb : 6 ≤ b
    · obtain ⟨m, rfl⟩ : ∃ m, b = m + 6 := ⟨b - 6, by omega⟩
      have hbz : (6 : Int) ≤ ((m + 6 : Nat) : Int) := by omega
      have hw6 : ((m + 6 : Nat) : Int) - 6 = (m : Int) := by omega
      go_wp2
      have h2 := hc1.set4 m
      have hF2 := hF.set (j := 4) hc1.base (.int .i64 (m : Int))
      obtain ⟨d0, d1, d2, d3, d4, y0, y1, y2, y3, y4, hsh2⟩ := h2.at
      simp only at d3 d4
      generalize wr.setCell ⟨p, 4, none⟩ (.int .i64 (m : Int)) = w2 at *
      obtain ⟨k, hk⟩ : ∃ k, V / 2 ^ m % 64 = k := ⟨_, rfl⟩
      have hk64 : k < 64 := by omega
      have hk0 : (0 : Int) ≤ (k : Int) := by omega
      have hk1 : (k : Int) < 64 := by omega
      have hand : bits .and .u32 ((V : Int) / 2 ^ m) 63 = (k : Int) := by
        rw [← hk, ← and63 (V / 2 ^ m) (Nat.lt_of_le_of_lt (Nat.div_le_self _ _) (by omega))]
        congr 1
      have HK := Lib.hid hk
      clear hk
      go_still_tail 14, (by kernel_rfl)
      change wpList _ _ _ _ _ w2.drew
      have h3 : WrAt w2.drew p B { W with out := o, acc := V, bits := m } := ⟨a1, v1, ha1, h2.row, h2.own, h2.ne, h2.base, h2.nil⟩
      have hF3 : Fr B p w w2.drew := hF2.drew
      generalize w2.drew = w3 at h3 hF3 ⊢
      go_wp2_with (go_at_call 33; refine (wb_any p B { W with out := o, acc := V, bits := m } (digit k) _ w3 h3 (by simp only; omega) ?hz).mono ?_)
      case hz => exact dig_str k hk64
      intro e w4 he hA4 hF4
      subst he
      go_wp2
      go_roundw
      case rel =>
        obtain ⟨f', rfl⟩ : ∃ f', f = f' + 1 := ⟨f - 1, by omega⟩
        refine ⟨m, f', o ++ [digit k], hA4, hF3.trans hF4, ?_, by omega, by omega, by simp; omega, by omega⟩
        rw [← he, ← HK.out]
        simp [ems]
      case measure =>
        obtain ⟨a4, v4, _, hc4⟩ := hA4
        obtain ⟨_, _, _, _, e4, _⟩ := hc4.at
        simp only at e4
        rw [e4, c4]
        simp [intOf]
        omega
    · have hbz : ¬ ((6 : Int) ≤ (b : Int)) := by omega
      have hb' : b = n % 6 := by omega
      have hsp := hc1.set3 (V % 2 ^ (n % 6))
      have hF2 := hF.set (j := 3) hc1.base (.int .u32 ((V % 2 ^ (n % 6) : Nat) : Int))
      have heo : o = W.out ++ ems V 3 n := by
        rw [← he]
        cases f with
        | zero => simp [ems]
        | succ f => simp [ems, hb]
      have HE := Lib.hid heo
      have HSP := Lib.hid hsp
      have HF2 := Lib.hid hF2
      clear hsp hF2 heo he hF
      have HB := Lib.hid hb'
      have hlt32 : 2 ^ b < 4294967296 := by have := Nat.pow_lt_pow_right (a := 2) (by decide) (show b < 32 by omega); simpa using this
      have hone : 1 ≤ 2 ^ b := Nat.one_le_two_pow
      have e1 : (2 : Int) ^ b = ((2 ^ b : Nat) : Int) := by simp
      have hw1 : IntKind.u32.wrap ((2 : Int) ^ b) = (2 : Int) ^ b := IntWalk.u32_in _ (by rw [e1]; omega)
      have hw2 : IntKind.u32.wrap ((2 : Int) ^ b - 1) = (2 : Int) ^ b - 1 := IntWalk.u32_in _ (by rw [e1]; omega)
      have key : bits .and .u32 (V : Int) ((2 : Int) ^ b - 1) = ((V % 2 ^ (n % 6) : Nat) : Int) := by
        rw [show (2 : Int) ^ b - 1 = ((2 ^ b - 1 : Nat) : Int) by rw [e1]; omega, u32_and_nat V _ (by omega) (by omega), Nat.and_two_pow_sub_one_eq_mod, HB.out]
      obtain ⟨X, hX⟩ : ∃ X, V % 2 ^ (n % 6) = X := ⟨_, rfl⟩
      rw [hX] at HSP HF2 key
      have HX := Lib.hid hX
      clear hX hol hbf hb6 hg hl hacc hbits hb' hlt32 hone e1
      go_wp2
      go_still_tail 13, (by kernel_rfl)
      change wpList _ _ _ _ _ wr.drew
      go_wp2
      go_end0
      have k := HSP.out
      rw [HE.out, HB.out] at k
      rw [HX.out]
      exact ⟨rfl, ⟨a1, v1, ha1, k.row, k.own, k.ne, k.base, k.nil⟩, HF2.out.drew⟩
end Go.Proofs.YtcddppgnmephnaaDoor
