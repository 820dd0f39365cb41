/-
  Expunge, as awake asks it; awake.
-/
import Derived.Test.YtacalpgiopgkkaaGreatDoorAwk
namespace Go.Proofs.YtacalpgiopgkkaaGreatDoor
set_option linter.unusedVariables false
open Go.RowKit Go.MapKept
attribute [local go_sem] Oper.semAt_some

theorem own_u32 {w : World} {B : Nat} {v : Value} (h : w.ownsRow B 30 1 v ([1] : List Int).length (S9.u32s [1])) : ∃ g c, v = .slice (some ⟨g, 0, none⟩) 1 c ∧ B ≤ g ∧ w.cell? ⟨g, 0, none⟩ = some (.int .u32 1) := by
  rcases h.2 with ⟨_, h0⟩ | ⟨g, cp, cur, e, hB, hh, _⟩
  · simp at h0
  · subst e
    exact ⟨g, cp, rfl, hB, (World.ownsRow.cellAt h 0 (by simp)).trans rfl⟩
set_option maxRecDepth 100000 in
set_option maxHeartbeats 4000000 in
theorem expunge_ok (p m b i c vd nx g mc f fc u uc N : Nat) (vh : Int) (L : List (ByteArray × Nat × Nat)) (s : ByteArray) (da : Option Addr) (dn dc : Nat) (w : World) (hN : N ≤ b) (hN2 : N ≤ w.heap.size)
    (hp : At w p [.map (some m), .int .u32 vh] 61) (hm : BMap w m L c) (hs : atB L s = some (i, b)) (hb : At w b [.int .u32 (vd : Nat), .int .u64 (nx : Nat), .slice (some ⟨g, 0, none⟩) 1 mc] 75) (hmc : 1 ≤ mc)
    (hg : ∀ j v, ([.int .u32 1, .slice (some ⟨f, 0, none⟩) 1 fc, .string noneB, .slice da dn dc] : List Value)[j]? = some v → w.cell? ⟨g, j, none⟩ = some v)
    (hu : w.cell? ⟨u, 0, none⟩ = some (.int .u32 1)) (huc : 1 ≤ uc ∧ uc ≤ maxLen) (hf : w.cell? ⟨f, 0, none⟩ = some (.string delB)) :
    Calls Tryz.prog 14 #[.pointer (some ⟨p, 0, none⟩), .string s, .slice (some ⟨u, 0, none⟩) 1 uc] w fun e w' => (∃ ga gc, e = .returned (.tuple #[.slice ga 1 gc, .int .i64 0])) ∧ Below N w w' := by
  have hrow : S9.RowV w 1 (.slice (some ⟨u, 0, none⟩) 1 uc) ([1] : List Int).length (S9.u32s [1]) := ⟨_, uc, rfl, huc.1, huc.2, rfl, by simp, fun x hx j hj => by
    obtain rfl := Option.some.inj hx
    have : j = 0 := by simpa using hj
    subst this
    exact hu⟩
  have HC := Lib.hid (clone_u32 _ [1] w hrow (by decide))
  have H0 := Lib.hid (And.intro hp (And.intro hm (And.intro hb (And.intro hg (And.intro hf (World.block_lt_of_cell? w _ hf))))))
  have HGL := Lib.hid (World.block_lt_of_cell? w _ (hg 0 _ rfl))
  clear hp hm hb hg hf hu hrow
  go_enter Tryz.func14, Tryz.ntmps14
  go_upto_region 2 with (go_at_call 28; refine HC.out.mono ?_; rintro e w1 ⟨o, rfl, ho, hb1⟩; obtain ⟨g2, c2, rfl, hg2, hcl⟩ := own_u32 ho; have HU := Lib.hid (And.intro hg2 (And.intro hcl hb1)); clear ho hg2 hcl hb1)
  have hb1 := HU.out.2.2
  have hb2 := (Below.refl w1.heap.size w1).alloc (Nat.le_refl _) (.cells #[.pointer none, .int .u32 0, .slice (some ⟨g2, 0, none⟩) 1 c2, .int .i64 0, .slice none 0 0, .string ⟨#[]⟩, .slice none 0 0] 70)
  have hq0 := At.new w1 [.pointer none, .int .u32 0, .slice (some ⟨g2, 0, none⟩) 1 c2, .int .i64 0, .slice none 0 0, .string ⟨#[]⟩, .slice none 0 0] 70
  have hb3 := hb2.setCell (p := ⟨w1.heap.size, 0, none⟩) (Nat.le_refl _) (.pointer (some ⟨p, 0, none⟩))
  have hq1 := hq0.set 0 (.pointer (some ⟨p, 0, none⟩))
  have hs1 := hb1.size
  have hbb := hb1.trans (hb3.mono hs1)
  have hex := expunge_one b w1.heap.size g g2 f mc c2 fc (.pointer (some ⟨p, 0, none⟩)) (.int .i64 0) (.slice none 0 0) (.string ⟨#[]⟩) (.slice none 0 0) (.slice none 0 0) (.slice da dn dc) vd nx _ N ⟨hN, by omega⟩ (H0.out.2.2.1.below hbb) hq1
    (fun j v hj => (hbb.cell (p := ⟨g, j, none⟩) HGL.out).trans (H0.out.2.2.2.1 j v hj)) hmc ⟨_, _, _, rfl⟩ ((hb3.cell (p := ⟨g2, 0, none⟩) (World.block_lt_of_cell? w1 _ HU.out.2.1)).trans HU.out.2.1) ((hbb.cell (p := ⟨f, 0, none⟩) H0.out.2.2.2.2.2).trans H0.out.2.2.2.2.1) (by have := H0.out.2.2.1.lt; omega)
  have hch := change_29 p m w1.heap.size b i c vh L s _ _ _ _ (fun e w' h => ⟨0, h.1⟩) (H0.out.1.below (hb1.trans (hb2.mono hs1))) (H0.out.2.1.below (hb1.trans (hb2.mono hs1))) hs hq0 hex
  have HCH := Lib.hid hch
  have HBB := Lib.hid (hbb.mono hN2)
  clear hch hex hq0 hq1 hb3 hb2 hb1 hbb
  go_wp2_with (go_at_call 23; refine HCH.out.mono ?_; rintro e w2 ⟨rfl, ⟨ga, gc, h2⟩, hb4⟩; have HB4 := Lib.hid hb4; clear hb4)
  refine bodyPost_ret (results_tmp2 rfl _ _ _) rfl ⟨⟨ga, gc, rfl⟩, ?_⟩
  exact HBB.out.trans HB4.out
end Go.Proofs.YtacalpgiopgkkaaGreatDoor
