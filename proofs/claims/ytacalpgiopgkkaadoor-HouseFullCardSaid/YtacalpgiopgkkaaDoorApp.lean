/-
  Append of a message that may be; Expunge of the one that is marked.
-/
import Derived.Test.YtacalpgiopgkkaaDoorChg
import Derived.Test.YtacalpgiopgkkaaDoorPut
import Derived.Test.YtacalpgiopgkkaaDoorExpW
namespace Go.Proofs.YtacalpgiopgkkaaDoor
set_option linter.unusedVariables false
open Go.RowKit Go.MapKept
attribute [local go_sem] Oper.semAt_some

theorem AllOk.below {w w' : World} {lv : Value} {T : List S9.Tx} (h : AllOk w lv T) (hb : Below w.heap.size w w') : AllOk w' lv T := fun W hW => h W (hb.trans (hW.mono hb.size))
theorem NoZero.below {w w' : World} {bv : Value} (h : NoZero w bv) (hb : Below w.heap.size w w') : NoZero w' bv := fun W hW => h W (hb.trans (hW.mono hb.size))
theorem BMap.below {w w' : World} {m c : Nat} {L : List (ByteArray × Nat × Nat)} (h : BMap w m L c) (hb : Below w.heap.size w w') : BMap w' m L c := (hb.block m (Array.getElem?_eq_some_iff.1 h).1).trans h
set_option maxRecDepth 100000 in
set_option maxHeartbeats 4000000 in
theorem append_ok (S p m b i c vd nx n : Nat) (vh : Int) (L : List (ByteArray × Nat × Nat)) (s : ByteArray) (mv : Value) (xs : List Value) (la : Option Addr) (ln lc : Nat) (T : List S9.Tx) (ba : Option Addr) (bc : Nat) (bl : List Nat) (w : World)
    (hp : At w p [.map (some m), .int .u32 vh] 38) (hm : BMap w m L c) (hs : atB L s = some (i, b)) (hb : At w b [.int .u32 (vd : Nat), .int .u64 (nx : Nat), mv] 59) (hmv : w.ownsRow S 68 4 mv n xs) (hmo : ∀ k, mv.ownBlock = some k → k ≠ b)
    (ht : Pow w) (hz : NoZero w (.slice ba bl.length bc)) (ha : AllOk w (.slice la ln lc) T) (hrb : ∀ W, Beside (fun k => k = b) w W → RowB W (.slice ba bl.length bc) bl) (hbl : bl.length ≤ 16384) (hn : n < 200) (hnx : nx ≤ 4294967294) (hS : S ≤ w.heap.size) :
    Calls Tryd.prog 6 #[.pointer (some ⟨p, 0, none⟩), .string s, .slice la ln lc, .string ⟨#[]⟩, .slice ba bl.length bc] w fun e w' => e = .returned (.tuple #[.int .u32 (nx : Nat), .int .i64 0]) ∧
      (∃ mv' fl bd, At w' b [.int .u32 (vd : Nat), .int .u64 (nx + 1 : Nat), mv'] 59 ∧ w'.ownsRow S 68 4 mv' (n + 1) (xs ++ [.int .u32 (nx : Nat), fl, .string noneB, bd]) ∧ S9.OwnT w' w.heap.size fl T ∧ OwnB w' w.heap.size bd bl) ∧ Beside (fun k => k = b ∨ mv.ownBlock = some k) w w' := by
  have hb0 : Below w.heap.size w (w.alloc (.cells #[.pointer none, .int .u32 0, .slice none 0 0, .int .i64 0, .slice la ln lc, .string ⟨#[]⟩, .slice ba bl.length bc] 46)) := (Below.refl _ w).alloc (Nat.le_refl _) _
  have hq0 := At.new w [.pointer none, .int .u32 0, .slice none 0 0, .int .i64 0, .slice la ln lc, .string ⟨#[]⟩, .slice ba bl.length bc] 46
  have hb1 : Below w.heap.size w ((w.alloc (.cells #[.pointer none, .int .u32 0, .slice none 0 0, .int .i64 0, .slice la ln lc, .string ⟨#[]⟩, .slice ba bl.length bc] 46)).setCell ⟨w.heap.size, 0, none⟩ (.pointer (some ⟨p, 0, none⟩))) := hb0.setCell (p := ⟨w.heap.size, 0, none⟩) (Nat.le_refl _) _
  have hq1 := hq0.set 0 (.pointer (some ⟨p, 0, none⟩))
  have hw1 : w.heap.size < (w.alloc (.cells #[.pointer none, .int .u32 0, .slice none 0 0, .int .i64 0, .slice la ln lc, .string ⟨#[]⟩, .slice ba bl.length bc] 46)).heap.size := by simp
  have hput := put_ok S b w.heap.size (.pointer (some ⟨p, 0, none⟩)) vd nx n mv xs (.slice la ln lc) (.slice ba bl.length bc) T bl (.slice none 0 0) (.int .i64 0) _ (hb.below hb1) hq1 (by have := hb.lt; omega) (owns_below hmv hb1) (fun k hk => ⟨hmo k hk, by have := (World.ownsRow.lt hmv k hk).2; omega⟩) (ht.below hb1 (Nat.le_refl _)) (hz.below hb1) (ha.below hb1)
    (fun W hW => hrb W (Beside.trans' (Beside.of_below hb1 (fun k h1 h2 => absurd h2 (by omega))) hW (fun k h1 h2 => by rcases h2 with h2 | h2; exact h2; omega))) hbl hn hnx (Nat.le_trans hS hb1.size)
  have hch := change_30 p m w.heap.size b i c vh L s _ _ _ _ (fun e w' h => ⟨0, h.1⟩) (hp.below hb0) (hm.below hb0) hs hq0 hput
  have HCH := Lib.hid hch
  have HB1 := Lib.hid hb1
  have HBL := Lib.hid hb.lt
  clear hch hput hb0 hb1 hq0 hq1 hw1 hp hm hb hmv hmo ht hz ha hrb
  go_enter Tryd.func6, Tryd.ntmps6
  go_upto_region 3 with (go_at_call 12; refine HCH.out.mono ?_; rintro e w2 ⟨rfl, hq2, hex, hbs⟩; have q1 := hq2.cell 1 _ rfl; have HE := Lib.hid (And.intro hex hbs); clear hq2 hex hbs)
  go_wp2_with fail
  refine bodyPost_ret (results_tmp2 rfl _ _ _) rfl ⟨rfl, ?_, ?_⟩
  · obtain ⟨mv', fl, bd, h1, h2, h3, h4⟩ := HE.out.1
    exact ⟨mv', fl, bd, h1, h2, h3.mono (HB1.out.size), owns_low h4 HB1.out.size⟩
  · exact Beside.trans' (Beside.of_below HB1.out (fun k h1 h2 => absurd h2 (by omega))) HE.out.2 (fun k h1 h2 => by
      rcases h2 with h2 | h2 | h2
      · exact .inl h2
      · omega
      · exact .inr h2)
end Go.Proofs.YtacalpgiopgkkaaDoor
