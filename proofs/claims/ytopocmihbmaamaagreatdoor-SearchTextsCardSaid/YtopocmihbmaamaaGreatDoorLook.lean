/-
  Match at the law's keys; awake.
-/
import Derived.Test.YtopocmihbmaamaaGreatDoorAsk
namespace Go.Proofs.YtopocmihbmaamaaGreatDoor
set_option linter.unusedVariables false
open Go.RowKit

theorem matchT (z : Int) (v : Value) (l s : Tx) (w : World) (hr : RowB w v (l.map UInt8.toNat)) (hl : l.length ≤ 100000) (hs : s.length ≤ 100000) (hm : MaxV w) :
    Calls Tryz.prog 5 #[.agg (keyC 10 (strL s) 0), .agg (shownC z v true)] w fun e w' => e = .returned (.bool (Lib.contains (foldL l) (foldL s))) ∧ Below w.heap.size w w' := by
  obtain ⟨a, len, cap, rfl, -⟩ := id hr
  exact match_of 10 (strL s) 0 z a len cap true _ w (fun p W hk => own_text p (strL s) W hk) fun W hb => match_text (strL s) z a len cap true _ W fun W2 hb2 =>
    ask_text z _ l s W2 ((hr.below hb).below hb2) hl hs ((hm.below hb).below hb2)
theorem matchL (z : Int) (n : Nat) (hn : n ≤ 999999999) (a : Option Addr) (l c : Nat) (h : Bool) (w : World) :
    Calls Tryz.prog 5 #[.agg (keyC 12 ⟨#[]⟩ (n : Nat)), .agg (shownC z (.slice a l c) h)] w fun e w' => e = .returned (.bool (decide ((n : Int) < z))) ∧ Below w.heap.size w w' :=
  match_of 12 ⟨#[]⟩ (n : Nat) z a l c h _ w (fun p W hk => own_size12 p n hn W hk) fun W hb => match_larger (n : Nat) z a l c h _ W fun W2 hb2 => ask_larger z (n : Nat) _ h W2 ⟨a, l, c, rfl⟩
theorem matchS (z : Int) (n : Nat) (hn : n ≤ 999999999) (a : Option Addr) (l c : Nat) (h : Bool) (w : World) :
    Calls Tryz.prog 5 #[.agg (keyC 13 ⟨#[]⟩ (n : Nat)), .agg (shownC z (.slice a l c) h)] w fun e w' => e = .returned (.bool (decide (z < (n : Int)))) ∧ Below w.heap.size w w' :=
  match_of 13 ⟨#[]⟩ (n : Nat) z a l c h _ w (fun p W hk => own_size13 p n hn W hk) fun W hb => match_smaller (n : Nat) z a l c h _ W fun W2 hb2 => ask_smaller z (n : Nat) _ h W2 ⟨a, l, c, rfl⟩
theorem matchA (z : Int) (a : Option Addr) (l c : Nat) (h : Bool) (w : World) :
    Calls Tryz.prog 5 #[.agg (keyC 1 ⟨#[]⟩ 0), .agg (shownC z (.slice a l c) h)] w fun e w' => e = .returned (.bool true) ∧ Below w.heap.size w w' :=
  match_of 1 ⟨#[]⟩ 0 z a l c h _ w (fun p W hk => own_all p W hk) fun W hb => match_all z a l c h _ W fun W2 hb2 => ask_all z _ h W2 ⟨a, l, c, rfl⟩
set_option maxRecDepth 100000 in
theorem awake_any (w : World) : Calls Tryz.prog 4 #[] w fun e w' => e = .returned (.bool true) ∧ Below w.heap.size w w' := by
  have HM := Lib.hid (fun W => matchA 0 none 0 0 false W)
  have HR := Lib.hid (fun W => right_of 3 ⟨#[92, 83, 101, 101, 110]⟩ 0 (fun p W hk => own_seen p W hk) W)
  go_enter Tryz.func4, Tryz.ntmps4
  go_wp2_with (first
    | (go_at_call 5; refine (HM.out _).mono ?_; rintro e w1 ⟨rfl, hb1⟩; have HB1 := Lib.hid hb1; clear hb1)
    | (go_at_call 8; refine (HR.out _).mono ?_; rintro e w2 ⟨rfl, hb2⟩; have HB2 := Lib.hid (HB1.out.trans (hb2.mono HB1.out.size)); clear hb2))
  go_ret
  exact ⟨rfl, HB2.out⟩
end Go.Proofs.YtopocmihbmaamaaGreatDoor
