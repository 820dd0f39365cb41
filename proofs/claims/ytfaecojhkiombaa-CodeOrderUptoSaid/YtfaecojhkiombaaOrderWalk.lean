/-
  The walk of CodeOrder.
-/
import Derived.Test.YtfaecojhkiombaaLex
import Derived.Test.YtfaecojhkiombaaAwake
import Derived.Deep.RegionLaw
import Derived.Deep.RegionWith
import Derived.Deep.DeepCutAuto
namespace Go.Proofs.Ytfaecojhkiombaa.codeOrder
set_option linter.unusedVariables false
open Go.RowKit

theorem esc_lt {l : List Nat} (h : ∀ n ∈ l, n < 256) : ∀ n ∈ txt l, n < 256 := by
  intro n hn
  simp only [txt, esc, List.mem_append, List.mem_flatMap] at hn
  rcases hn with ⟨a, ha, hn⟩ | hn
  · have := h a ha
    split at hn
    · simp at hn; omega
    · simp at hn; omega
  · simp at hn; omega

theorem app_lt {l m : List Nat} (h : ∀ n ∈ l, n < 256) (k : ∀ n ∈ m, n < 256) : ∀ n ∈ l ++ m, n < 256 := by
  intro n hn
  rcases List.mem_append.1 hn with h' | h'
  · exact h n h'
  · exact k n h'

set_option maxHeartbeats 1000000 in
theorem walk' (w : World) (a b : Nat) (ha : a < 2 ^ 64) (hb : b < 2 ^ 64) (vx vy vm vo : Value) (lx ly lm lo : List Nat)
    (rx : RowB w vx lx) (ry : RowB w vy ly) (rm : RowB w vm lm) (ro : RowB w vo lo)
    (sx : lx.length ≤ 1048576) (sy : ly.length ≤ 1048576) (sm : lm.length ≤ 1048576) (so : lo.length ≤ 1048576) :
    Calls Try.prog 6 #[.int .u64 a, .int .u64 b, vx, vy, vm, vo] w fun e w' => e = .returned (.bool true) ∧ Below w.heap.size w w' := by
  have hla : (numB a).length ≤ 9 := by have := digs_len a 8; simp [numB]; omega
  have hlb : (numB b).length ≤ 9 := by have := digs_len b 8; simp [numB]; omega
  go_enter Try.func6, Try.ntmps6
  go_upto_region 1 with fail
  go_cut [13, 14] (fun p q wx => p = .string (strN (numB a ++ lm)) ∧ q = .string (strN (numB b ++ lo)) ∧ Below w.heap.size w wx)
  case first =>
    go_region_law (first
      | (go_simp; go_at_call_of 11 ((a : Nat) : Int); refine (num_any a ha _).mono ?_; rintro e w1 ⟨o1, rfl, ho1, hb1⟩; have hc1 : Below w.heap.size w w1 := (Below.refl _ _).drew.trans hb1; have hs1 := hc1.size; have rm1 := rm.below hc1)
      | (refine step_appl rfl (.tmp 18) (.tmp 19) rfl ho1 hc1 hs1 rm1 rfl rfl (by omega) ?_; intro o2 w2 ho2 hb2 _; have hs2 := hb2.size; have rm2 := ho2.row (app_lt (numB_lt a) rm.lt); have E2 := run_str rm2)
      | (go_simp; go_at_call_of 11 ((b : Nat) : Int); refine (num_any b hb _).mono ?_; rintro e w3 ⟨o3, rfl, ho3, hb3⟩; have hs3 := hb3.size; have hc3 : Below w.heap.size w w3 := hb2.trans (hb3.mono hs2); have ro3 := ro.below hc3; have rm3 := rm2.below hb3; have E3 := run_str rm3)
      | (refine step_appl rfl (.tmp 23) (.tmp 24) rfl ho3 hb3 hs3 ro3 rfl rfl (by omega) ?_; intro o4 w4 ho4 hb4 _; have hc4 : Below w.heap.size w w4 := hb2.trans (hb4.mono hs2); have rm4 := rm2.below hb4; have ro4 := ho4.row (app_lt (numB_lt b) ro.lt); have E4 := run_str rm4; have E5 := run_str ro4))
    all_goals
      go_wp2_with fail
      go_meet
      exact ⟨rfl, rfl, hc4⟩
  case rest =>
    obtain ⟨rfl, rfl, hc⟩ := hcut
    have hsc := hc.size
    have hlx : (txt lx).length ≤ 2 * lx.length + 2 := by have := esc_len lx; simp [txt]; omega
    have hly : (txt ly).length ≤ 2 * ly.length + 2 := by have := esc_len ly; simp [txt]; omega
    have rxc := rx.below hc
    have ryc := ry.below hc
    go_upto_region 2 with fail
    go_cut [15, 16] (fun p q wx => p = .string (strN (txt lx ++ lm)) ∧ q = .string (strN (txt ly ++ lo)) ∧ Below w.heap.size w wx)
    case first =>
      go_region_law (first
        | (go_simp; go_at_call_of 13 vx; refine (text_any vx lx _ (rxc.below (Below.refl _ _).drew) (by omega)).mono ?_; rintro e w1 ⟨o1, rfl, ho1, hb1⟩; have hc1 : Below wc.heap.size wc w1 := (Below.refl _ _).drew.trans hb1; have hs1 := hc1.size; have rm1 := rm.below (hc.trans (hc1.mono hsc)))
        | (refine step_appl rfl (.tmp 28) (.tmp 29) rfl ho1 hc1 hs1 rm1 rfl rfl (by omega) ?_; intro o2 w2 ho2 hb2 _; have hs2 := hb2.size; have rm2 := ho2.row (app_lt (esc_lt rx.lt) rm.lt); have E2 := run_str rm2; have ry2 := ryc.below hb2)
        | (go_simp; go_at_call_of 13 vy; refine (text_any vy ly _ ry2 (by omega)).mono ?_; rintro e w3 ⟨o3, rfl, ho3, hb3⟩; have hs3 := hb3.size; have hc3 : Below w.heap.size w w3 := (hc.trans (hb2.mono hsc)).trans (hb3.mono (by omega)); have ro3 := ro.below hc3; have rm3 := rm2.below hb3; have E3 := run_str rm3)
        | (refine step_appl rfl (.tmp 33) (.tmp 34) rfl ho3 hb3 hs3 ro3 rfl rfl (by omega) ?_; intro o4 w4 ho4 hb4 _; have hc4 : Below w.heap.size w w4 := (hc.trans (hb2.mono hsc)).trans (hb4.mono (by omega)); have rm4 := rm2.below hb4; have ro4 := ho4.row (app_lt (esc_lt ry.lt) ro.lt); have E4 := run_str rm4; have E5 := run_str ro4))
      all_goals
        go_wp2_with fail
        go_meet
        exact ⟨rfl, rfl, hc4⟩
    case rest =>
      obtain ⟨rfl, rfl, hd⟩ := hcut
      go_wp2_with fail
      refine (awake_any _).mono ?_
      rintro e w5 ⟨rfl, hb5⟩
      have he := hd.trans (hb5.mono hd.size)
      have E1 := run_str (rx.below he)
      have E2 := run_str (ry.below he)
      have F1 : Hid (a ≠ b → Op.bytesLess (strN (numB a ++ lm)).toList (strN (numB b ++ lo)).toList = decide (a < b)) := by
        intro h
        rw [strN_toList, strN_toList, bytesLess_map _ _ (app_lt (numB_lt a) rm.lt) (app_lt (numB_lt b) ro.lt)]
        exact lex_num a b lm lo ha hb h
      have F2 : Hid (lx ≠ ly → Op.bytesLess (strN (txt lx ++ lm)).toList (strN (txt ly ++ lo)).toList = Op.bytesLess (strN lx).toList (strN ly).toList) := by
        intro h
        rw [strN_toList, strN_toList, strN_toList, strN_toList, bytesLess_map _ _ (app_lt (esc_lt rx.lt) rm.lt) (app_lt (esc_lt ry.lt) ro.lt), bytesLess_map _ _ rx.lt ry.lt]
        exact lex_txt lx ly lm lo h
      go_wp2_with fail
      all_goals first
        | (have h1 : ¬ ((a : Int) = (b : Int)) := by assumption
           have h2 : ¬ (decide (a < b) = Op.bytesLess (strN (numB a ++ lm)).toList (strN (numB b ++ lo)).toList) := by assumption
           exact absurd (F1.out (by omega)).symm h2)
        | (go_ret
           refine ⟨ret_eq ?_, he⟩
           first
             | rfl
             | (have h3 : ¬ ((strN lx).toList = (strN ly).toList) := by assumption
                have h4 : lx ≠ ly := fun e => h3 (by rw [e])
                simp [F2.out h4]
                done))

theorem nat_of {x0 : Int} (h : (Lit.int .u64 x0).wf = true) : ∃ x : Nat, x0 = (x : Int) ∧ x < 2 ^ 64 := by
  have h := bounds_u64 h
  exact ⟨x0.toNat, by omega, by omega⟩

theorem walk (w : World) (x0 : Int) (wf0 : (Lit.int .u64 x0).wf = true) (x1 : Int) (wf1 : (Lit.int .u64 x1).wf = true)
    (v2 : Value) (l2 : List Nat) (r2 : RowB w v2 l2) (s2 : l2.length ≤ 1048576) (v3 : Value) (l3 : List Nat) (r3 : RowB w v3 l3) (s3 : l3.length ≤ 1048576)
    (v4 : Value) (l4 : List Nat) (r4 : RowB w v4 l4) (s4 : l4.length ≤ 1048576) (v5 : Value) (l5 : List Nat) (r5 : RowB w v5 l5) (s5 : l5.length ≤ 1048576) :
    Calls Try.prog 6 #[.int .u64 x0, .int .u64 x1, v2, v3, v4, v5] w fun e w' => e = .returned (.bool true) ∧ Below w.heap.size w w' := by
  obtain ⟨a, rfl, ha⟩ := nat_of wf0
  obtain ⟨b, rfl, hb⟩ := nat_of wf1
  exact walk' w a b ha hb v2 v3 v4 v5 l2 l3 l4 l5 r2 r3 r4 r5 s2 s3 s4 s5
end Go.Proofs.Ytfaecojhkiombaa.codeOrder
