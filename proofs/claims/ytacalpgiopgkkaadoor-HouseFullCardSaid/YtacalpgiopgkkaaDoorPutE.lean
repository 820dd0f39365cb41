/-
  A message is put behind the others of a mailbox.
-/
import Derived.Test.YtacalpgiopgkkaaDoorBes
import Derived.Deep.AppendLies
namespace Go.Proofs.YtacalpgiopgkkaaDoor
set_option linter.unusedVariables false
open Go.RowKit Go.MapKept
attribute [local go_sem] Oper.semAt_some

theorem eql_empty (w : World) : (binOp .eql 9 (.string ⟨#[]⟩) (.string ⟨#[]⟩)).run Tryd.prog w = .ok (.bool true) w := by kernel_rfl
theorem own_other {w : World} {B : Nat} {v : Value} {T : List S9.Tx} (h : S9.OwnT w B v T) {b : Nat} (hb : b < B) (j : Nat) (u : Value) : S9.OwnT (w.setCell ⟨b, j, none⟩ u) B v T := by
  refine ⟨h.1, ?_⟩
  rcases h.2 with h2 | ⟨g, cap, cur, e, hB, hh, r⟩
  · exact .inl h2
  · exact .inr ⟨g, cap, cur, e, hB, by rw [heap_setCell_other _ ⟨b, j, none⟩ g u (by simp; omega)]; exact hh, r⟩
theorem ownT_shape {w : World} {B : Nat} {v : Value} {T : List S9.Tx} (h : S9.OwnT w B v T) : ∃ a c, v = .slice a T.length c := by
  rcases h.2 with ⟨e, h0⟩ | ⟨g, cp, cur, e, _⟩
  · exact ⟨none, 0, by rw [e, h0]⟩
  · exact ⟨_, cp, e⟩
theorem info51 : (Tryd.prog.info? 68).map (fun i => (i.zero, i.size, i.bytes)) = some (some (.agg #[.int .u32 0, .slice none 0 0, .string ⟨#[]⟩, .slice none 0 0]), 4, 72) := by kernel_rfl
/-- what All answers of flags that may be -/
def AllOk (w : World) (lv : Value) (T : List S9.Tx) : Prop := ∀ W, Below w.heap.size w W → Calls Tryd.prog 21 #[lv] W fun e W' => ∃ o, e = .returned (.tuple #[o, .int .i64 0]) ∧ S9.OwnT W' W.heap.size o T ∧ Below W.heap.size W W'
def NoZero (w : World) (bv : Value) : Prop := ∀ W, Below w.heap.size w W → Calls Tryd.prog 20 #[bv, .int .u8 0] W fun e W' => e = .returned (.int .i64 (-1)) ∧ W' = W
/-- the call's own blocks beside -/
def PutOk (S b q : Nat) (hp mv0 : Value) (vd nx n : Nat) (xs : List Value) (lv bv : Value) (T : List S9.Tx) (bl : List Nat) (uv ov : Value) (w : World) (e : Ending) (w' : World) : Prop :=
  e = .returned (.int .i64 0) ∧ At w' q [hp, .int .u32 (nx : Nat), uv, ov, lv, .string ⟨#[]⟩, bv] 46 ∧
  (∃ mv fl bd, At w' b [.int .u32 (vd : Nat), .int .u64 (nx + 1 : Nat), mv] 59 ∧ w'.ownsRow S 68 4 mv (n + 1) (xs ++ [.int .u32 (nx : Nat), fl, .string noneB, bd]) ∧ S9.OwnT w' w.heap.size fl T ∧ OwnB w' w.heap.size bd bl) ∧
  Beside (fun k => k = b ∨ k = q ∨ mv0.ownBlock = some k) w w'
theorem owns_setOther {w : World} {B e s n b j : Nat} {v u : Value} {xs : List Value} (h : w.ownsRow B e s v n xs) (hb : ∀ k, v.ownBlock = some k → k ≠ b) : (w.setCell ⟨b, j, none⟩ u).ownsRow B e s v n xs := by
  refine ⟨h.1, ?_⟩
  rcases h.2 with h2 | ⟨g, cap, cur, e, hB, hh, r⟩
  · exact .inl h2
  · exact .inr ⟨g, cap, cur, e, hB, by rw [heap_setCell_other _ ⟨b, j, none⟩ g u (by simpa using hb g (by rw [e]; rfl))]; exact hh, r⟩
theorem owns_grow {w w' : World} {B e s n : Nat} {v : Value} {xs : List Value} {row : Option Nat} (h : w.ownsRow B e s v n xs) (hg : w.grownBy w' row) (hne : ∀ k, v.ownBlock = some k → some k ≠ row) : w'.ownsRow B e s v n xs := by
  refine ⟨h.1, ?_⟩
  rcases h.2 with h2 | ⟨g, cap, cur, e, hB, hh, r⟩
  · exact .inl h2
  · exact .inr ⟨g, cap, cur, e, hB, (hg.block g (Array.getElem?_eq_some_iff.1 hh).1 (hne g (by rw [e]; rfl))).trans hh, r⟩
theorem owns_below {w w' : World} {B e s n : Nat} {v : Value} {xs : List Value} (h : w.ownsRow B e s v n xs) (hb : Below w.heap.size w w') : w'.ownsRow B e s v n xs := by
  refine ⟨h.1, ?_⟩
  rcases h.2 with h2 | ⟨g, cap, cur, e, hB, hh, r⟩
  · exact .inl h2
  · exact .inr ⟨g, cap, cur, e, hB, (hb.block g (Array.getElem?_eq_some_iff.1 hh).1).trans hh, r⟩
theorem owns_low {w : World} {B C e s n : Nat} {v : Value} {xs : List Value} (h : w.ownsRow B e s v n xs) (hC : C ≤ B) : w.ownsRow C e s v n xs := by
  refine ⟨h.1, ?_⟩
  rcases h.2 with h2 | ⟨g, cap, cur, e, hB, r⟩
  · exact .inl h2
  · exact .inr ⟨g, cap, cur, e, Nat.le_trans hC hB, r⟩
theorem put_end {S b q : Nat} {hp : Value} {vd nx n : Nat} {mv : Value} {xs : List Value} {lv bv fl bd : Value} {T : List S9.Tx} {bl : List Nat} {uv ov : Value} {w W4 w5 w6 : World} {g cp : Nat}
    (hmv : w.ownsRow S 68 4 mv n xs) (hbl : b < w.heap.size) (hbq : b ≠ q) (hmo : ∀ k, mv.ownBlock = some k → k ≠ b ∧ k ≠ q) (hs : w.heap.size ≤ W4.heap.size) (ho4 : S9.OwnT W4 w.heap.size fl T) (hb5 : Below W4.drew.heap.size W4.drew w5) (hbd : OwnB w5 W4.drew.heap.size bd bl)
    (hbx : Beside (fun k => k = b ∨ k = q) w (w5.alloc (.cells #[.int .u32 (nx : Nat), fl, .string noneB, bd] 68))) (hown : w6.ownsRow S 68 4 (.slice (some ⟨g, 0, none⟩) (n + 1) cp) (n + 1) (xs ++ [.int .u32 (nx : Nat), fl, .string noneB, bd]))
    (hgr : (w5.alloc (.cells #[.int .u32 (nx : Nat), fl, .string noneB, bd] 68)).grownBy w6 mv.ownBlock) (hli : mv.ownBlock = some g ∨ g = w5.heap.size + 1) (hb6 : At w6 b [.int .u32 (vd : Nat), .int .u64 ((nx : Int) + 1), mv] 59)
    (hq6 : At w6 q [hp, .int .u32 (nx : Nat), uv, ov, lv, .string ⟨#[]⟩, bv] 46) : PutOk S b q hp mv vd nx n xs lv bv T bl uv ov w (.returned (.int .i64 0)) (w6.setCell ⟨b, 2, none⟩ (.slice (some ⟨g, 0, none⟩) (n + 1) cp)) := by
  have hml : ∀ k, mv.ownBlock = some k → k < w.heap.size := fun k hk => (World.ownsRow.lt hmv k hk).2
  have hs5 := hb5.size
  have hs5' : W4.heap.size ≤ w5.heap.size := hs5
  have hX := (Below.refl w5.heap.size w5).alloc (Nat.le_refl _) (.cells #[.int .u32 (nx : Nat), fl, .string noneB, bd] 68)
  refine ⟨rfl, hq6.other 2 _ hbq, ⟨_, fl, bd, ?_, owns_setOther hown ?_, ?_, ?_⟩, ?_⟩
  · have := hb6.set 2 (.slice (some ⟨g, 0, none⟩) (n + 1) cp)
    simpa using this
  · intro k hk
    simp [Value.ownBlock] at hk
    subst hk
    rcases hli with h | h
    · exact (hmo _ h).1
    · omega
  · have h5 : S9.OwnT w5 w.heap.size fl T := owns_below (w := W4.drew) ho4 hb5
    refine owns_setOther (owns_grow (owns_below h5 hX) hgr fun k hk e => ?_) fun k hk => ?_
    · have := (World.ownsRow.lt h5 k hk).1
      have := hml k e.symm
      omega
    · have := (World.ownsRow.lt h5 k hk).1
      omega
  · have h5 : OwnB w5 w.heap.size bd bl := owns_low hbd hs
    refine owns_setOther (owns_grow (owns_below h5 hX) hgr fun k hk e => ?_) fun k hk => ?_
    · have := (World.ownsRow.lt h5 k hk).1
      have := hml k e.symm
      omega
    · have := (World.ownsRow.lt h5 k hk).1
      omega
  · exact Beside.setCell (p := ⟨b, 2, none⟩) ((hbx.mono (fun k _ hk => by rcases hk with h | h; exact .inl h; exact .inr (.inl h))).grown hgr (fun k hk => .inl (.inr (.inr hk)))) (.inl (.inl rfl)) _
end Go.Proofs.YtacalpgiopgkkaaDoor
