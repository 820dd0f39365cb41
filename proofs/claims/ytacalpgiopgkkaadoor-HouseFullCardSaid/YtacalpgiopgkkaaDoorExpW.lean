/-
  Expunge of the one message that is marked so: the walk.
-/
import Derived.Test.YtacalpgiopgkkaaDoorExp
namespace Go.Proofs.YtacalpgiopgkkaaDoor
set_option linter.unusedVariables false
open Go.RowKit Go.MapKept
attribute [local go_sem] Oper.semAt_some

theorem info30 : (Tryd.prog.info? 26).map (fun i => (i.zero, i.size, i.bytes)) = some (some (.int .u32 0), 1, 4) := by kernel_rfl
theorem owns_one {w : World} {B e s n : Nat} {v : Value} {xs : List Value} (h : w.ownsRow B e s v n xs) : ∃ a c, v = .slice a n c := by
  rcases h.2 with ⟨e, h0⟩ | ⟨g, cp, cur, e, _⟩
  · exact ⟨none, 0, by rw [e, h0]⟩
  · exact ⟨_, cp, e⟩
set_option maxRecDepth 100000 in
set_option maxHeartbeats 4000000 in
theorem expunge_one (b q g u f : Nat) (mc uc fc : Nat) (hp ov lv dv bv ds bd : Value) (vd nx : Nat) (w : World) (N : Nat) (hN : N ≤ b ∧ N ≤ q)
    (hb : At w b [.int .u32 (vd : Nat), .int .u64 (nx : Nat), .slice (some ⟨g, 0, none⟩) 1 mc] 59) (hq : At w q [hp, .int .u32 0, .slice (some ⟨u, 0, none⟩) 1 uc, ov, lv, dv, bv] 46)
    (hg : ∀ j v, ([.int .u32 1, .slice (some ⟨f, 0, none⟩) 1 fc, .string noneB, bd] : List Value)[j]? = some v → w.cell? ⟨g, j, none⟩ = some v) (hmc : 1 ≤ mc) (hbd : ∃ a n c, bd = .slice a n c)
    (hu : w.cell? ⟨u, 0, none⟩ = some (.int .u32 1)) (hf : w.cell? ⟨f, 0, none⟩ = some (.string delB)) (hbq : b ≠ q) :
    Calls Tryd.prog 18 #[.pointer (some ⟨b, 0, none⟩), .pointer (some ⟨q, 0, none⟩)] w fun e w' => e = .returned (.int .i64 0) ∧ (∃ ga gc, w'.cell? ⟨q, 2, none⟩ = some (.slice ga 1 gc)) ∧ Below N w w' := by
  obtain ⟨da, dn, dc, rfl⟩ := hbd
  have g0 := hg 0 _ rfl
  have g1 := hg 1 _ rfl
  have g2 := hg 2 _ rfl
  have g3 := hg 3 _ rfl
  have b2 := hb.cell 2 _ rfl
  have hgl := World.block_lt_of_cell? w _ g0
  have hul := World.block_lt_of_cell? w _ hu
  have hfl := World.block_lt_of_cell? w _ hf
  have H0 := Lib.hid (And.intro hb (And.intro hq (And.intro hu (And.intro hf (And.intro hgl (And.intro hul hfl))))))
  obtain ⟨i0, hi, hz0, hz1, hz2⟩ := info_parts info30
  have HI := Lib.hid hi
  have hmc2 : (0 : Int) < (mc : Int) := by omega
  clear hb hq hu hf hgl hul hfl hg hi
  go_enter Tryd.func18, Tryd.ntmps18
  go_wp2_with fail
  go_loopw [5, 6, 14] (fun gv sv iv wr => sv = .slice none 0 0 ∧ ((iv = .int .i64 0 ∧ gv = .slice none 0 0 ∧ wr = w) ∨ (iv = .int .i64 1 ∧ ∃ ga gc, gv = .slice ga 1 gc ∧ Below w.heap.size w wr))) (fun _ _ iv _ => 1 - (RowKit.intOf iv).toNat)
  case atStart => exact ⟨rfl, .inl ⟨rfl, rfl, rfl⟩⟩
  case round =>
    obtain ⟨rfl, hrel⟩ := hrel
    rcases hrel with ⟨rfl, rfl, rfl⟩ | ⟨rfl, ga, gc, rfl, hbw⟩
    · go_upto_region 6 with fail
      have hz := At.new wr [.int .u32 1, .slice (some ⟨f, 0, none⟩) 1 fc, .string noneB, .slice da dn dc] 68
      have hbz := (Below.refl wr.heap.size wr).alloc (Nat.le_refl _) (.cells #[.int .u32 1, .slice (some ⟨f, 0, none⟩) 1 fc, .string noneB, .slice da dn dc] 68)
      have hq := H0.out.2.1.below hbz
      have hu := (hbz.cell (p := ⟨u, 0, none⟩) H0.out.2.2.2.2.2.1).trans H0.out.2.2.1
      have hf := (hbz.cell (p := ⟨f, 0, none⟩) H0.out.2.2.2.2.2.2).trans H0.out.2.2.2.1
      obtain ⟨z, hzz⟩ : ∃ z, wr.heap.size = z := ⟨_, rfl⟩
      have HBZ := Lib.hid hbz
      rw [hzz] at hz ⊢
      change At (wr.alloc (.cells #[.int .u32 1, .slice (some ⟨f, 0, none⟩) 1 fc, .string noneB, .slice da dn dc] 68)) z _ _ at hz
      generalize wr.alloc (.cells #[.int .u32 1, .slice (some ⟨f, 0, none⟩) 1 fc, .string noneB, .slice da dn dc] 68) = W1 at *
      have HF := Lib.hid (has_del f fc W1.drew hf)
      have HZ := Lib.hid (And.intro hz (And.intro hq (And.intro hu (World.block_lt_of_cell? W1 _ hu))))
      have c0 := hz.cell 0 _ rfl
      have c1 := hz.cell 1 _ rfl
      have c2 := hq.cell 2 _ rfl
      clear hz hbz hq hu hf hzz
      go_upto_region 7 with (go_region_held3 (fun w' => w'.cell? ⟨z, 0, none⟩ = some (.int .u32 1) ∧ w'.cell? ⟨z, 1, none⟩ = some (.slice (some ⟨f, 0, none⟩) 1 fc) ∧ w'.cell? ⟨q, 2, none⟩ = some (.slice (some ⟨u, 0, none⟩) 1 uc)) (first | with_reducible exact ⟨c0, c1, c2⟩ | with_reducible exact ⟨d0, d1, d2⟩ | go_keep)
        (first
          | (go_at_call 28
             refine HF.out.mono ?_
             rintro e w5 ⟨rfl, hb5⟩
             have d0 : w5.cell? ⟨z, 0, none⟩ = some (.int .u32 1) := (hb5.cell (p := ⟨z, 0, none⟩) HZ.out.1.lt).trans c0
             have d1 : w5.cell? ⟨z, 1, none⟩ = some (.slice (some ⟨f, 0, none⟩) 1 fc) := (hb5.cell (p := ⟨z, 1, none⟩) HZ.out.1.lt).trans c1
             have d2 : w5.cell? ⟨q, 2, none⟩ = some (.slice (some ⟨u, 0, none⟩) 1 uc) := (hb5.cell (p := ⟨q, 2, none⟩) HZ.out.2.1.lt).trans c2
             have hu5 : w5.cell? ⟨u, 0, none⟩ = some (.int .u32 1) := (hb5.cell (p := ⟨u, 0, none⟩) HZ.out.2.2.2).trans HZ.out.2.2.1
             have HU5 := Lib.hid hu5
             have HB5 := Lib.hid hb5
             clear hu5 hb5)
          | (go_at_call 29
             refine (contains_one u uc w5 HU5.out).mono ?_
             rintro e w6 ⟨rfl, rfl⟩)))
      have HB05 := Lib.hid (HBZ.out.drew.trans (HB5.out.mono (show wr.heap.size ≤ W1.drew.heap.size from HBZ.out.size)))
      clear HB5 HBZ HF HZ HU5
      go_wp2_with (at_builtin; go_loud (refine wpList_append_own _ rfl (.tmp 30) (.tmp 33) 41 rfl 0 26 i0 (.int .u32 0) 1 4 Tryd.underlying41 HI.out hz0 hz1 hz2 rfl (by decide) (.slice none 0 0) 0 [] rfl (World.ownsRow_nil _ _ _ _) ⟨w5.heap.size, 0, none⟩ 1 1 [.int .u32 1] rfl rfl (one_new _ _ _) (by simp [Value.oneCell']) (by simp [maxLen]) (by decide) (Nat.zero_le _) ?_); intro o w7 ho hg7 _; obtain ⟨oa, oc, rfl⟩ := owns_one ho; have HB7 := Lib.hid ((HB05.out.alloc HB05.out.size (.cells #[.int .u32 1] 26)).grown hg7 (by have := HB05.out.size; simp; omega) (fun k e => by simp [Value.ownBlock] at e)); clear ho hg7)
      go_roundw
      case rel => exact ⟨rfl, .inr ⟨by go_num, _, _, rfl, HB7.out⟩⟩
      case measure => simp [RowKit.intOf]
    · have HBW := Lib.hid hbw
      have hb2 := H0.out.1.below hbw
      have hq2 := H0.out.2.1.below hbw
      have f2 := hq2.free 2
      have k2 := hb2.free 2
      have m2 := hq2.cell 2 _ rfl
      have l2 := hb2.cell 2 _ rfl
      have HQ := Lib.hid (And.intro hb2 hq2)
      clear hbw hb2 hq2
      go_wp2_with fail
      go_ret
      refine ⟨rfl, ⟨ga, gc, ?_⟩, ?_⟩
      · have := (HQ.out.2.set 2 (.slice ga 1 gc)).other 2 (.slice none 0 0) hbq
        exact this.cell 2 _ rfl
      · exact (((HBW.out.mono (Nat.le_trans hN.1 (Nat.le_of_lt H0.out.1.lt))).setCell (p := ⟨q, 2, none⟩) hN.2 _).setCell (p := ⟨b, 2, none⟩) hN.1 _)
end Go.Proofs.YtacalpgiopgkkaaDoor
