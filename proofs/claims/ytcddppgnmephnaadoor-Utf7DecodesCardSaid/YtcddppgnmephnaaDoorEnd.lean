/-
  The program's end, far and sign.
-/
import Derived.Test.YtcddppgnmephnaaDoorPut
import Derived.Deep.DeepCutAuto
namespace Go.Proofs.YtcddppgnmephnaaDoor
set_option linter.unusedVariables false
open Go.RowKit Go.Lib

theorem WrAt.drew {w : World} {p B : Nat} {W : Wr} (h : WrAt w p B W) : WrAt w.drew p B W := by
  obtain ⟨a, v, ha, k⟩ := h
  exact ⟨a, v, ha, k.row, k.own, k.ne, k.base, k.nil⟩

set_option maxHeartbeats 1000000 in
set_option maxRecDepth 100000 in
theorem end_any (p B : Nat) (W : Wr) (w : World) (h : WrAt w p B W) (hg : W.Good) (hl : W.out.length + 3 ≤ 1000000) :
    Calls Tryd.prog 19 #[.pointer (some ⟨p, 0, none⟩)] w fun e w' => e = .returned (.tuple #[]) ∧ WrAt w' p B (endS W) ∧ Fr B p w w' := by
  obtain ⟨o, acc, bs, inn⟩ := W
  have H := Lib.hid h
  obtain ⟨a, v, ha, hc⟩ := h
  obtain ⟨c0, c1, c2, c3, c4, x0, x1, x2, x3, x4, hsh⟩ := hc.at
  have hbase := hc.base
  simp only at c2 c3 c4 hl
  clear hc hsh
  cases inn with
  | false =>
    go_enter Tryd.func19, Tryd.ntmps19
    go_wp2
    exact bodyPost_ret (v := .tuple #[]) (by simp [results, Tryd.results19, go_sem]) rfl ⟨rfl, H.out, Fr.refl B p w⟩
  | true =>
    have hb := hg.bits
    simp only at hb
    by_cases h0 : bs = 0
    · subst h0
      go_enter Tryd.func19, Tryd.ntmps19
      go_wp2_with (go_at_call 33; refine (wb_any p B _ 45 _ _ H.out (by simp only; omega) (by rfl)).mono ?_; rintro e w1 ⟨rfl, hA1, hF1⟩; obtain ⟨a1, v1, ha1, hc1⟩ := hA1; obtain ⟨d0, d1, d2, d3, d4, y0, y1, y2, y3, y4, hsh1⟩ := hc1.at; simp only at d2 d3 d4; have H1 := Lib.hid hc1; have HF := Lib.hid hF1; clear hc1 hF1 hsh1)
      go_end0
      refine ⟨rfl, ⟨a1, v1, ha1, ?_⟩, ((HF.out.set hbase _).set hbase _).set hbase _⟩
      have k := ((H1.out.set2 false).set3 0).set4 0
      simpa [endS] using k
    · obtain ⟨k, hk⟩ : ∃ k, acc * 2 ^ (6 - bs) % 64 = k := ⟨_, rfl⟩
      have hk64 : k < 64 := by omega
      have hk0 : (0 : Int) ≤ (k : Int) := by omega
      have hk1 : (k : Int) < 64 := by omega
      have hend : endS ⟨o, acc, bs, true⟩ = ⟨o ++ [digit k] ++ [45], 0, 0, false⟩ := by simp [endS, hk, show 0 < bs by omega]
      rw [hend]
      clear hend
      have hbz : (0 : Int) < (bs : Int) := by omega
      have hcase : (bs = 2 ∧ acc < 4) ∨ (bs = 4 ∧ acc < 16) := by omega
      have HK := Lib.hid hk
      clear hk hb hg
      have hand : bits .and .u32 ((acc : Int) * (2 : Int) ^ (6 - bs)) 63 = (k : Int) := by
        have hlt : acc * 2 ^ (6 - bs) < 4294967296 := by rcases hcase with ⟨rfl, _⟩ | ⟨rfl, _⟩ <;> simp <;> omega
        rw [show (acc : Int) * (2 : Int) ^ (6 - bs) = ((acc * 2 ^ (6 - bs) : Nat) : Int) by simp, and63 _ hlt, HK.out]
      have hw4 : IntKind.i64.wrap 4 = 4 := by decide
      have hw2 : IntKind.i64.wrap 2 = 2 := by decide
      have hB : WrAt w.drew p B ⟨o, acc, bs, true⟩ := H.out.drew
      have key : ∀ (z : Int) (_ : True) (hz : z = ((digit k).toNat : Int)) w2, WrAt w2 p B ⟨o, acc, bs, true⟩ → Fr B p w w2 → Calls Tryd.prog 33 #[.pointer (some ⟨p, 0, none⟩), .int .u8 z] w2 fun e w' => e = .returned .nilIface ∧ WrAt w' p B ⟨o ++ [digit k], acc, bs, true⟩ ∧ Fr B p w w' := fun z _ hz w2 h2 hf2 =>
        (wb_any p B ⟨o, acc, bs, true⟩ (digit k) z w2 h2 (by simp only; omega) hz).mono fun e w' ⟨h1, h3, h4⟩ => ⟨h1, h3, hf2.trans h4⟩
      have hdig := dig_str k hk64
      rcases hcase with ⟨rfl, hacc⟩ | ⟨rfl, hacc⟩
      · have hand2 : bits .and .u32 ((acc : Int) * 16) 63 = (k : Int) := hand
        have hwr : IntKind.u32.wrap ((acc : Int) * 16) = (acc : Int) * 16 := IntWalk.u32_in _ (by omega)
        clear hand
        go_enter Tryd.func19, Tryd.ntmps19
        go_wp2
        go_still_tail 15, (by kernel_rfl)
        change wpList _ _ _ _ _ w.drew
        go_wp2_with (go_at_call 33; refine (key _ trivial ?hz _ hB (Fr.refl B p w).drew).mono ?_)
        case hz => rfl
        rintro e w1 ⟨he, hA1, hF1⟩
        subst he
        obtain ⟨a1, v1, ha1, hc1⟩ := hA1
        obtain ⟨d0, d1, d2, d3, d4, y0, y1, y2, y3, y4, hsh1⟩ := hc1.at
        simp only at d2 d3 d4
        have HA1 := Lib.hid (show WrAt w1 p B _ from ⟨a1, v1, ha1, hc1⟩)
        have HF1 := Lib.hid hF1
        clear hc1 hF1 hsh1
        go_wp2_with (go_at_call 33; refine (wb_any p B _ 45 _ _ HA1.out (by simp; omega) (by rfl)).mono ?_; rintro e w2 ⟨rfl, hA1, hF1⟩; obtain ⟨a2, v2, ha2, hc1⟩ := hA1; obtain ⟨d0, d1, d2, d3, d4, y0, y1, y2, y3, y4, hsh1⟩ := hc1.at; simp only at d2 d3 d4; have H1 := Lib.hid hc1; have HF := Lib.hid hF1; clear hc1 hF1 hsh1)
        go_end0
        exact ⟨rfl, ⟨a2, v2, ha2, ((H1.out.set2 false).set3 0).set4 0⟩, (((HF1.out.trans HF.out).set hbase _).set hbase _).set hbase _⟩
      · have hand2 : bits .and .u32 ((acc : Int) * 4) 63 = (k : Int) := hand
        have hwr : IntKind.u32.wrap ((acc : Int) * 4) = (acc : Int) * 4 := IntWalk.u32_in _ (by omega)
        clear hand
        go_enter Tryd.func19, Tryd.ntmps19
        go_wp2
        go_still_tail 15, (by kernel_rfl)
        change wpList _ _ _ _ _ w.drew
        go_wp2_with (go_at_call 33; refine (key _ trivial ?hz _ hB (Fr.refl B p w).drew).mono ?_)
        case hz => rfl
        rintro e w1 ⟨he, hA1, hF1⟩
        subst he
        obtain ⟨a1, v1, ha1, hc1⟩ := hA1
        obtain ⟨d0, d1, d2, d3, d4, y0, y1, y2, y3, y4, hsh1⟩ := hc1.at
        simp only at d2 d3 d4
        have HA1 := Lib.hid (show WrAt w1 p B _ from ⟨a1, v1, ha1, hc1⟩)
        have HF1 := Lib.hid hF1
        clear hc1 hF1 hsh1
        go_wp2_with (go_at_call 33; refine (wb_any p B _ 45 _ _ HA1.out (by simp; omega) (by rfl)).mono ?_; rintro e w2 ⟨rfl, hA1, hF1⟩; obtain ⟨a2, v2, ha2, hc1⟩ := hA1; obtain ⟨d0, d1, d2, d3, d4, y0, y1, y2, y3, y4, hsh1⟩ := hc1.at; simp only at d2 d3 d4; have H1 := Lib.hid hc1; have HF := Lib.hid hF1; clear hc1 hF1 hsh1)
        go_end0
        exact ⟨rfl, ⟨a2, v2, ha2, ((H1.out.set2 false).set3 0).set4 0⟩, (((HF1.out.trans HF.out).set hbase _).set hbase _).set hbase _⟩

set_option maxHeartbeats 400000 in
theorem plain_any (r : Nat) (hr : r ≤ 1114111) (w : World) : Calls Tryd.prog 30 #[.int .i32 (r : Int)] w fun e w' => e = .returned (.bool (plainR r)) ∧ w = w' := by
  unfold plainR
  by_cases h1 : 32 ≤ r
  · have h1z : (32 : Int) ≤ (r : Int) := by omega
    by_cases h2 : r ≤ 126
    · have h2z : (r : Int) ≤ 126 := by omega
      rw [decide_eq_true h1, decide_eq_true h2]
      go_enter Tryd.func30, Tryd.ntmps30
      go_wp2
      go_ret
      exact ⟨rfl, rfl⟩
    · have h2z : ¬ ((r : Int) ≤ 126) := by omega
      rw [decide_eq_true h1, decide_eq_false h2]
      go_enter Tryd.func30, Tryd.ntmps30
      go_wp2
      go_ret
      exact ⟨rfl, rfl⟩
  · have h1z : ¬ ((32 : Int) ≤ (r : Int)) := by omega
    rw [decide_eq_false h1]
    go_enter Tryd.func30, Tryd.ntmps30
    go_wp2
    go_ret
    exact ⟨rfl, rfl⟩

theorem mul1024 (n : Nat) (h : n < 1048576) : bits .and .u32 (n : Int) 1023 = ((n % 1024 : Nat) : Int) := by
  rw [show (1023 : Int) = ((1023 : Nat) : Int) from rfl, u32_and_nat n 1023 (by omega) (by decide)]
  congr 1
  exact Nat.and_two_pow_sub_one_eq_mod n 10

set_option maxHeartbeats 1000000 in
set_option maxRecDepth 100000 in
theorem far_any (p B : Nat) (W : Wr) (r : Nat) (hr : r ≤ 1114111) (w : World) (h : WrAt w p B W) (hg : W.Good) (hl : W.out.length + 9 ≤ 1000000) :
    Calls Tryd.prog 31 #[.pointer (some ⟨p, 0, none⟩), .int .i32 (r : Int)] w fun e w' => e = .returned (.tuple #[]) ∧ WrAt w' p B (farS W r) ∧ Fr B p w w' := by
  obtain ⟨g1, g2, g3⟩ := openS_good hg
  obtain ⟨a, v, ha, hc⟩ := h
  obtain ⟨c0, c1, c2, c3, c4, x0, x1, x2, x3, x4, hsh⟩ := hc.at
  have hbase := hc.base
  have H := Lib.hid (show WrAt w p B W from ⟨a, v, ha, hc⟩)
  clear hc hsh
  obtain ⟨O, hO⟩ : ∃ O, openS W = O := ⟨_, rfl⟩
  obtain ⟨F, hF⟩ : ∃ F, farS W r = F := ⟨_, rfl⟩
  have HFar : Hid (farS W r = F ∧ openS W = O) := Lib.hid ⟨hF, hO⟩
  rw [hO] at g1 g2 g3
  rw [hF]
  clear hO hF
  obtain ⟨b, hb⟩ : ∃ b, W.inn = b := ⟨_, rfl⟩
  rw [hb] at c2
  have HI := Lib.hid hb
  clear hb
  go_enter Tryd.func31, Tryd.ntmps31
  go_upto_if 8 with fail
  go_cut [] (fun wx => WrAt wx p B O ∧ Fr B p w wx)
  case first =>
    cases b with
    | true =>
      have ho : O = W := by rw [← HFar.out.2]; simp [openS, HI.out]
      go_wp2
      go_meet
      exact ⟨by rw [ho]; exact H.out, Fr.refl B p w⟩
    | false =>
      have ho : O = { W with out := W.out ++ [38], inn := true } := by rw [← HFar.out.2]; simp [openS, HI.out]
      have HO := Lib.hid ho
      clear ho
      go_wp2_with (go_at_call 33; refine (wb_any p B W 38 _ _ H.out (by omega) (by rfl)).mono ?_; rintro e w1 ⟨rfl, hA1, hF1⟩; obtain ⟨a1, v1, ha1, hc1⟩ := hA1; obtain ⟨d0, d1, d2, d3, d4, y0, y1, y2, y3, y4, hsh1⟩ := hc1.at; simp only at d2 d3 d4; have H1 := Lib.hid (show WrAt _ p B { W with out := W.out ++ [38], inn := true } from ⟨a1, v1, ha1, hc1.set2 true⟩); have HF := Lib.hid (hF1.set (j := 2) hbase (.bool true)); clear hc1 hF1 hsh1)
      go_meet
      exact ⟨by rw [HO.out]; exact H1.out, HF.out⟩
  case rest =>
    obtain ⟨hA, hFr⟩ := hcut
    by_cases hlow : r < 65536
    · have hz : (r : Int) < 65536 := by omega
      have hw32 : IntKind.u32.wrap (r : Int) = (r : Int) := IntWalk.u32_in _ (by omega)
      have hfar : F = putS O r := by rw [← HFar.out.1, ← HFar.out.2]; simp [farS, hlow]
      have HO := Lib.hid hfar
      have hput := put_any p B O r hlow wc hA g1 (by omega)
      clear hfar
      go_wp2_with (go_at_call 39; refine hput.mono ?_; rintro e w2 ⟨rfl, h2, hf2⟩)
      exact bodyPost_ret (v := .tuple #[]) (by simp [results, Tryd.results31, go_sem]) rfl ⟨rfl, by rw [HO.out]; exact h2, hFr.trans hf2⟩
    · have hz : ¬ ((r : Int) < 65536) := by omega
      obtain ⟨n, hnr⟩ : ∃ n, r = n + 65536 := ⟨r - 65536, by omega⟩
      have hn : n < 1048576 := by omega
      have hfar : F = putS (putS O (55296 + n / 1024)) (56320 + n % 1024) := by
        rw [← HFar.out.1, ← HFar.out.2]
        unfold farS
        rw [if_neg (by omega), show r - 65536 = n by omega]
      obtain ⟨q1, q2, q3⟩ := putS_good g1 g2 (55296 + n / 1024)
      have hput : ∀ z, z = ((55296 + n / 1024 : Nat) : Int) → Calls Tryd.prog 39 #[.pointer (some ⟨p, 0, none⟩), .int .u32 z] wc fun e w' => e = .returned (.tuple #[]) ∧ WrAt w' p B (putS O (55296 + n / 1024)) ∧ Fr B p wc w' := fun z hz => by
        subst hz
        exact put_any p B O _ (by omega) wc hA g1 (by omega)
      have hput2 : ∀ w2 z, z = ((56320 + n % 1024 : Nat) : Int) → WrAt w2 p B (putS O (55296 + n / 1024)) → Calls Tryd.prog 39 #[.pointer (some ⟨p, 0, none⟩), .int .u32 z] w2 fun e w' => e = .returned (.tuple #[]) ∧ WrAt w' p B F ∧ Fr B p w2 w' := fun w2 z hz h2 => by
        subst hz hfar
        exact put_any p B _ _ (by omega) w2 h2 q1 (by omega)
      have hs1 : (r : Int) - 65536 = (n : Int) := by omega
      obtain ⟨m, hm⟩ : ∃ m, n % 1024 = m := ⟨_, rfl⟩
      obtain ⟨d, hd⟩ : ∃ d, n / 1024 = d := ⟨_, rfl⟩
      obtain ⟨Y, hY⟩ : ∃ Y, putS O (55296 + n / 1024) = Y := ⟨_, rfl⟩
      have hw1 : IntKind.i32.wrap (n : Int) = (n : Int) := IntWalk.i32_in _ (by omega)
      have hw2 : IntKind.u32.wrap (n : Int) = (n : Int) := IntWalk.u32_in _ (by omega)
      have hdd : (n : Int) / 1024 = (d : Int) := by omega
      have hw3 : IntKind.u32.wrap (55296 + (d : Int)) = 55296 + (d : Int) := IntWalk.u32_in _ (by omega)
      have hband : bits .and .u32 (n : Int) 1023 = (m : Int) := by rw [mul1024 n hn, hm]
      have hw4 : IntKind.u32.wrap (56320 + (m : Int)) = 56320 + (m : Int) := IntWalk.u32_in _ (by omega)
      rw [hY] at hput hput2
      rw [hd] at hput
      rw [hm] at hput2
      have P1 := Lib.hid hput
      have P2 := Lib.hid hput2
      clear hm hd hnr hput hput2 hY q1 q2 q3 hfar g1 g2 g3 hg
      go_wp2_with (go_at_call 39; refine (P1.out _ (by omega)).mono ?_; rintro e w2 ⟨rfl, h2, hf2⟩; have H2 := Lib.hid h2; have HF2 := Lib.hid hf2; clear h2 hf2 P1)
      go_wp2_with (go_at_call 39; refine (P2.out _ _ (by omega) H2.out).mono ?_; rintro e w3 ⟨rfl, h3, hf3⟩)
      go_end0
      exact ⟨rfl, h3, hFr.trans (HF2.out.trans hf3)⟩
end Go.Proofs.YtcddppgnmephnaaDoor
