/-
  strings.Cut at the sign that ends base 64.
-/
import Derived.Test.YtcddppgnmephnaaDoorFar
import Derived.BigRegion
namespace Go.Proofs.YtcddppgnmephnaaDoor
set_option linter.unusedVariables false
open Go.RowKit Go.Lib

theorem cutAt_none : ∀ l, cutAt l = none → Lib.indexByte l 45 = -1
  | [], _ => rfl
  | c :: cs, h => by
    unfold cutAt at h
    split at h
    · cases h
    · rename_i hc
      split at h
      · rename_i h2
        unfold Lib.indexByte
        simp [hc, cutAt_none cs h2]
      · cases h
theorem cutAt_some : ∀ l a b, cutAt l = some (a, b) → Lib.indexByte l 45 = a.length ∧ l = a ++ 45 :: b
  | [], a, b, h => by cases h
  | c :: cs, a, b, h => by
    unfold cutAt at h
    split at h
    · rename_i hc
      cases h
      subst hc
      exact ⟨by simp [Lib.indexByte], rfl⟩
    · rename_i hc
      split at h
      · cases h
      · rename_i a' b' h2
        obtain ⟨rfl, rfl⟩ := Prod.mk.inj (Option.some.inj h)
        obtain ⟨i1, i2⟩ := cutAt_some cs a' b' h2
        refine ⟨?_, by rw [i2]; rfl⟩
        unfold Lib.indexByte
        simp only [i1]
        rw [if_neg (by simp [hc])]
        rw [if_neg (by simp)]
        simp

theorem strL_take (a b : List UInt8) : (strL (a ++ b)).extract 0 a.length = strL a := by
  rw [← strL_of ((strL (a ++ b)).extract 0 a.length), ByteArray.data_extract, Array.toList_extract, List.extract_eq_take_drop]
  show strL (((a ++ b).drop 0).take (a.length - 0)) = strL a
  simp
theorem strL_drop (a b : List UInt8) : (strL (a ++ 45 :: b)).extract (a.length + 1) (strL (a ++ 45 :: b)).size = strL b := by
  rw [← strL_of ((strL (a ++ 45 :: b)).extract (a.length + 1) (strL (a ++ 45 :: b)).size), extract_list]
  show strL ((a ++ 45 :: b).drop (a.length + 1)) = strL b
  congr 1
  rw [List.drop_append]
  simp

/-- what Cut answers -/
def cutV (l : List UInt8) : Value := match cutAt l with
  | none => .tuple #[.string (strL l), .string ⟨#[]⟩, .bool false]
  | some (a, b) => .tuple #[.string (strL a), .string (strL b), .bool true]

set_option maxHeartbeats 1000000 in
set_option maxRecDepth 100000 in
theorem cut41 (l : List UInt8) (hl : l.length ≤ 100000) (w : World) :
    Calls Tryd.prog 41 #[.string (strL l), .string ⟨#[45]⟩] w fun e w' => e = .returned (cutV l) ∧ Below w.heap.size w w' := by
  have hi := Tryd.stringslite_Index_one (strL l) 45 w
  rw [show (strL l).data.toList = l from rfl] at hi
  unfold cutV
  cases hc : cutAt l with
  | none =>
    rw [cutAt_none l hc] at hi
    obtain ⟨S, hS⟩ : ∃ S, strL l = S := ⟨_, rfl⟩
    rw [hS] at hi ⊢
    clear hS hc
    go_enter Tryd.func41, Tryd.ntmps41
    go_wp2_with (go_at_call 44; refine hi.mono ?_; rintro e w1 ⟨rfl, rfl⟩)
    exact bodyPost_ret (v := .tuple #[.string S, .string ⟨#[]⟩, .bool false]) (by simp [results, Tryd.results41, go_sem]) rfl ⟨rfl, Below.refl _ _⟩
  | some x =>
    obtain ⟨a, b⟩ := x
    obtain ⟨h1, h2⟩ := cutAt_some l a b hc
    rw [h1] at hi
    have e1 : (strL l).extract 0 a.length = strL a := by rw [h2]; exact strL_take a _
    have e2 : (strL l).extract (a.length + 1) (strL l).size = strL b := by rw [h2]; exact strL_drop a b
    have e3 : (strL l).size = a.length + 1 + b.length := by rw [strL_size, h2]; simp; omega
    have e4 : l.length = a.length + 1 + b.length := by rw [h2]; simp; omega
    obtain ⟨S, hS⟩ : ∃ S, strL l = S := ⟨_, rfl⟩
    rw [hS] at hi e1 e2 e3 ⊢
    obtain ⟨n, hn⟩ : ∃ n, a.length = n := ⟨_, rfl⟩
    rw [hn] at hi e1 e2 e3
    obtain ⟨m, hm⟩ : ∃ m, n + 1 = m := ⟨_, rfl⟩
    obtain ⟨k, hk⟩ : ∃ k, S.size = k := ⟨_, rfl⟩
    rw [hm, hk] at e2 e3
    have z1 : (0 : Int) ≤ (n : Int) := by omega
    have z2 : (n : Int) + 1 = (m : Int) := by omega
    have z3 : (m : Int) ≤ (k : Int) := by omega
    have z4 : (n : Int) ≤ (k : Int) := by omega
    have z5 : (0 : Int) ≤ (m : Int) := by omega
    have z6 : (k : Int) ≤ 100000 := by omega
    have E := Lib.hid (And.intro e1 e2)
    clear e1 e2 e3 e4 h1 h2 hc hS hm hn
    go_enter Tryd.func41, Tryd.ntmps41
    go_wp2_with (go_at_call 44; refine hi.mono ?_; rintro e w1 ⟨rfl, rfl⟩)
    go_region
    go_wp2
    exact bodyPost_ret (v := .tuple #[.string (S.extract 0 n), .string (S.extract m k), .bool true]) (by simp [results, Tryd.results41, go_sem]) rfl ⟨by rw [E.out.1, E.out.2], (Below.refl _ _).drew⟩
theorem cutV_is (l : List UInt8) : ∃ A B c, cutV l = .tuple #[.string A, .string B, .bool c] := by
  unfold cutV
  split
  · exact ⟨_, _, _, rfl⟩
  · exact ⟨_, _, _, rfl⟩
set_option maxRecDepth 100000 in
theorem cut35 (l : List UInt8) (hl : l.length ≤ 100000) (w : World) :
    Calls Tryd.prog 35 #[.string (strL l), .string ⟨#[45]⟩] w fun e w' => e = .returned (cutV l) ∧ Below w.heap.size w w' := by
  have hi := cut41 l hl w
  obtain ⟨A, B, c, hc⟩ := cutV_is l
  rw [hc] at hi ⊢
  obtain ⟨S, hS⟩ : ∃ S, strL l = S := ⟨_, rfl⟩
  rw [hS] at hi ⊢
  clear hS hc
  go_enter Tryd.func35, Tryd.ntmps35
  go_wp2_with (go_at_call 41; refine hi.mono ?_; rintro e w1 ⟨rfl, hb⟩; have HB := Lib.hid hb; clear hb)
  exact bodyPost_ret (v := .tuple #[.string A, .string B, .bool c]) (by simp [results, Tryd.results35, go_sem]) rfl ⟨rfl, HB.out⟩
end Go.Proofs.YtcddppgnmephnaaDoor
