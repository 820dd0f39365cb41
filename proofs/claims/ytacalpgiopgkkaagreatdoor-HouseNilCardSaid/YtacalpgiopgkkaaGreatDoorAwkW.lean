/-
  awake: its walk.
-/
import Derived.Test.YtacalpgiopgkkaaGreatDoorExpC
import Derived.Lib.SmallJoins
namespace Go.Proofs.YtacalpgiopgkkaaGreatDoor
set_option linter.unusedVariables false
open Go.RowKit Go.MapKept
attribute [local go_sem] Oper.semAt_some

theorem atB_one (s : ByteArray) (b c : Nat) : atB [(s, b, c)] s = some (0, b) := by simp [atB]
theorem row_x {W : World} {g : Nat} (h : W.heap[g]? = some (.cells #[.int .u8 120] 5 (1, 2))) : RowB W (.slice (some ⟨g, 0, none⟩) 1 1) [120] := by
  refine ⟨_, _, _, rfl, rfl, by decide, by decide, by decide, by simp, fun x hx i hi => ?_⟩
  obtain rfl := Option.some.inj hx
  have hi5 : i = 0 := by simpa using hi
  subst hi5
  rw [Addr.add_lit, Nat.zero_add, cell_of_row _ _ 0 _ 5 (1, 2) h]
  rfl
theorem own_msg {w : World} {mv x0 x1 x2 x3 : Value} (h : w.ownsRow 0 51 4 mv (0 + 1) ([] ++ [x0, x1, x2, x3])) : ∃ g c, mv = .slice (some ⟨g, 0, none⟩) 1 c ∧ 1 ≤ c ∧ ∀ j v, ([x0, x1, x2, x3] : List Value)[j]? = some v → w.cell? ⟨g, j, none⟩ = some v := by
  rcases h.2 with ⟨_, h0⟩ | ⟨g, cp, cur, e, hB, hh, h1, h2, h3, h4⟩
  · omega
  · subst e
    refine ⟨g, cp, rfl, by omega, fun j v hj => ?_⟩
    have hj4 : j < 4 := (List.getElem?_eq_some_iff.1 hj).1
    have := World.ownsRow.cellAt h j (by simpa using hj4)
    rw [this]
    exact hj
theorem own_flag {w : World} {B : Nat} {fl : Value} (h : S9.OwnT w B fl [delT]) : ∃ f c, fl = .slice (some ⟨f, 0, none⟩) 1 c ∧ w.cell? ⟨f, 0, none⟩ = some (.string delB) := by
  rcases h.2 with ⟨_, h0⟩ | ⟨g, cp, cur, e, hB, hh, _⟩
  · simp at h0
  · subst e
    exact ⟨g, cp, rfl, (World.ownsRow.cellAt h 0 (by simp)).trans rfl⟩
set_option maxRecDepth 100000 in
set_option maxHeartbeats 4000000 in
theorem awake_any (w : World) (ht : Pow w) : Calls Tryz.prog 7 #[] w fun e w' => e = .returned (.bool true) ∧ Below w.heap.size w w' := by
  have HT := Lib.hid ht
  clear ht
  go_enter Tryz.func7, Tryz.ntmps7
  go_upto_region 4 with (go_at_call 6; refine (new_any _).mono ?_; rintro e w1 ⟨p, m, b, rfl, h1, h2, h3, h4, h5, h6, hb1⟩; have H1 := Lib.hid (And.intro h1 (And.intro h2 (And.intro h3 (And.intro h4 (And.intro h5 (And.intro h6 hb1)))))); clear h1 h2 h3 h4 h5 h6 hb1)
  have kc := Go.Joins.run_convert_bytes_const_at (P := Tryz.prog) (w1.alloc (.cells #[.string ⟨#[92, 68, 101, 108, 101, 116, 101, 100]⟩] 9)) 29 5 #[.int .u8 120] 1 1 (w1.heap.size + 1) (by simp) Tryz.underlying29 Tryz.underlying5
  have hb3 := ((Below.refl w1.heap.size w1).alloc (Nat.le_refl _) (.cells #[.string ⟨#[92, 68, 101, 108, 101, 116, 101, 100]⟩] 9)).alloc (by simp) (.cells #[.int .u8 120] 5 (1, 2))
  have hx := heap_alloc_new (w1.alloc (.cells #[.string ⟨#[92, 68, 101, 108, 101, 116, 101, 100]⟩] 9)) (.cells #[.int .u8 120] 5 (1, 2))
  rw [show (w1.alloc (.cells #[.string ⟨#[92, 68, 101, 108, 101, 116, 101, 100]⟩] 9)).heap.size = w1.heap.size + 1 by simp] at hx
  have hy : ((w1.alloc (.cells #[.string ⟨#[92, 68, 101, 108, 101, 116, 101, 100]⟩] 9)).alloc (.cells #[.int .u8 120] 5 (1, 2))).heap[w1.heap.size]? = _ := (Below.heap_alloc _ _ _ (by simp)).trans (heap_alloc_new w1 _)
  have hs3 : ((w1.alloc (.cells #[.string ⟨#[92, 68, 101, 108, 101, 116, 101, 100]⟩] 9)).alloc (.cells #[.int .u8 120] 5 (1, 2))).heap.size = w1.heap.size + 2 := by simp
  go_upto_region 5 with fail
  clear kc
  generalize (w1.alloc (.cells #[.string ⟨#[92, 68, 101, 108, 101, 116, 101, 100]⟩] 9)).alloc (.cells #[.int .u8 120] 5 (1, 2)) = w3 at *
  obtain ⟨h1, h2, h3, h4, h5, h6, hb1⟩ := H1.out
  have hp3 := h1.below hb3
  have hm3 := h2.below hb3
  have hq3 := h3.below hb3
  have cy := cell_of_row w3 w1.heap.size 0 _ _ _ hy
  have cx := cell_of_row w3 (w1.heap.size + 1) 0 _ _ _ hx
  have hbl := h3.lt
  have hap := append_ok p m b 0 1 1 1 0 1 [(inboxB, b, 0)] inboxB (.slice none 0 0) [] (some ⟨w1.heap.size, 0, none⟩) 1 1 [delT] (some ⟨w1.heap.size + 1, 0, none⟩) 1 [120] w3 hp3 hm3 (atB_one _ _ _) hq3 (World.ownsRow_nil _ _ _ _) (by simp [Value.ownBlock]) (HT.out.below (hb1.trans (hb3.mono hb1.size)) (Nat.le_refl _)) (nozero_x w3 _ 1 cx) (all_del w3 _ 1 (by decide) (by decide) cy) (fun W hW => row_x ((hW.block _ (by omega) (by omega)).trans hx)) (by decide) (by decide) (by decide)
  have HAP := Lib.hid hap
  have H3 := Lib.hid (And.intro hp3 (And.intro hm3 (hb1.trans (hb3.mono hb1.size))))
  have HPB := Lib.hid (And.intro h4 (And.intro h5 h6))
  clear hap hp3 hm3 hq3 cy cx hbl hb3 hx hy hs3 h1 h2 h3 h4 h5 h6 hb1 H1
  refine HAP.out.mono ?_
  rintro e w4 ⟨rfl, ⟨mv, fl, bd, hb4, hr4, hfl, hbd⟩, hbs⟩
  obtain ⟨g, mc, rfl, hmc, hgc⟩ := own_msg hr4
  obtain ⟨f, fc, rfl, hfc⟩ := own_flag hfl
  obtain ⟨da, dc, rfl⟩ := hbd.shape
  have hp4 := H3.out.1.beside hbs (by simp [Value.ownBlock]; have := HPB.out; omega)
  have hm4 : BMap w4 m [(inboxB, b, 0)] 1 := (hbs.block m (Array.getElem?_eq_some_iff.1 H3.out.2.1).1 (by simp [Value.ownBlock]; have := HPB.out; omega)).trans H3.out.2.1
  have hbw : Below w.heap.size w w4 := H3.out.2.2.trans (hbs.below (fun k hk => by rcases hk with h | h; (have := HPB.out; omega); simp [Value.ownBlock] at h) H3.out.2.2.size)
  have hb5 := (Below.refl w4.heap.size w4).alloc (Nat.le_refl _) (.cells #[.int .u32 1] 30)
  have hu : (w4.alloc (.cells #[.int .u32 1] 30)).cell? ⟨w4.heap.size, 0, none⟩ = some (.int .u32 1) := (cell_of_row _ _ 0 _ _ _ (heap_alloc_new w4 (.cells #[.int .u32 1] 30))).trans rfl
  have hgl := World.block_lt_of_cell? w4 _ (hgc 0 _ rfl)
  have hfl2 := World.block_lt_of_cell? w4 _ hfc
  have hex := expunge_ok p m b 0 1 1 2 g mc f fc w4.heap.size 1 w.heap.size 1 [(inboxB, b, 0)] inboxB da 1 dc _ (by have := HPB.out; omega) (by have := hbw.size; have := hb5.size; omega) (hp4.below hb5) (hm4.below hb5) (atB_one _ _ _) (hb4.below hb5) hmc
    (fun j v hj => (hb5.cell (p := ⟨g, j, none⟩) hgl).trans (hgc j v hj)) hu ⟨by decide, by decide⟩ ((hb5.cell (p := ⟨f, 0, none⟩) hfl2).trans hfc)
  have HEX := Lib.hid hex
  have HBW := Lib.hid (hbw.alloc hbw.size (.cells #[.int .u32 1] 30))
  clear hex hb5 hu hgl hfl2 hp4 hm4 hbw hb4 hr4 hfl hbd hbs hgc hfc
  go_wp2_with (go_at_call 14; refine HEX.out.mono ?_; rintro e w6 ⟨⟨ga, gc, rfl⟩, hb6⟩; have HB6 := Lib.hid hb6; clear hb6)
  go_ret
  exact ⟨rfl, HBW.out.trans HB6.out⟩
end Go.Proofs.YtacalpgiopgkkaaGreatDoor
