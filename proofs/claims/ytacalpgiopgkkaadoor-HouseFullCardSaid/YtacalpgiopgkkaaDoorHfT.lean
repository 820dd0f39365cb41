/-
  Append to a full mailbox; flags that are none; the closed run of awake.
-/
import Derived.Test.YtacalpgiopgkkaaDoorApp
import Derived.Test.YtacalpgiopgkkaaDoorPutE
import Derived.Test.YtacalpgiopgkkaaDoorExpW
import Derived.Lib.SmallJoins

section
namespace Go.Proofs.YtacalpgiopgkkaaDoor
set_option linter.unusedVariables false
open Go.RowKit Go.MapKept
attribute [local go_sem] Oper.semAt_some

set_option maxRecDepth 100000 in
set_option maxHeartbeats 4000000 in
theorem put_full (b q : Nat) (hp : Value) (vd nx n : Nat) (ma : Option Addr) (mc : Nat) (lv : Value) (ba : Option Addr) (bn bc : Nat) (T : List S9.Tx) (uv ov : Value) (w : World)
    (hb : At w b [.int .u32 (vd : Nat), .int .u64 (nx : Nat), .slice ma n mc] 59) (hq : At w q [hp, .int .u32 0, uv, ov, lv, .string ⟨#[]⟩, .slice ba bn bc] 46)
    (ht : Pow w) (hz : NoZero w (.slice ba bn bc)) (ha : AllOk w lv T) (hbl : bn ≤ 16384) (hn : 200 ≤ n) :
    Calls Tryd.prog 13 #[.pointer (some ⟨b, 0, none⟩), .pointer (some ⟨q, 0, none⟩)] w fun e w' => e = .returned (.int .i64 4) ∧ Below w.heap.size w w' := by
  have q5 := hq.cell 5 _ rfl
  have q6 := hq.cell 6 _ rfl
  have q4 := hq.cell 4 _ rfl
  have HD := Lib.hid (same_none w ht)
  have H0 := Lib.hid (And.intro hb (And.intro hq (And.intro hz ha)))
  have he := eql_empty w
  have hbl2 : (bn : Int) ≤ 16384 := by omega
  have hn2 : (200 : Int) ≤ n := by omega
  clear hb hq hz ha ht
  go_enter Tryd.func13, Tryd.ntmps13
  go_upto_region 5 with (go_at_call 19; refine HD.out.mono ?_; rintro e w1 ⟨rfl, hb1⟩)
  have r6 := (hb1.cell (p := ⟨q, 6, none⟩) H0.out.2.1.lt).trans q6
  have r4 := (hb1.cell (p := ⟨q, 4, none⟩) H0.out.2.1.lt).trans q4
  have HB1 := Lib.hid hb1
  clear hb1 q5 q6 q4
  go_upto_region 7 with (go_at_call 20; refine (H0.out.2.2.1 _ HB1.out).mono ?_; rintro e w1' ⟨rfl, rfl⟩)
  go_wp2_with (go_at_call 21; refine (H0.out.2.2.2 _ HB1.out).mono ?_; rintro e w2 ⟨o, rfl, ho, hb2⟩; obtain ⟨oa, oc, rfl⟩ := ownT_shape ho; have hbb := HB1.out.trans (hb2.mono HB1.out.size); have HB2 := Lib.hid hbb; have t1 := H0.out.1.below hbb; have t2 := H0.out.2.1.below hbb; have b1 := t1.cell 1 _ rfl; have b2 := t1.cell 2 _ rfl; have q6 := t2.cell 6 _ rfl; have q1 := t2.cell 1 _ rfl; clear ho hb2 hbb t1 t2)
  all_goals (go_ret; exact ⟨rfl, HB2.out⟩)

set_option maxRecDepth 100000 in
set_option maxHeartbeats 4000000 in
theorem append_full (p m b i c vd nx n : Nat) (vh : Int) (L : List (ByteArray × Nat × Nat)) (s : ByteArray) (ma : Option Addr) (mc : Nat) (la : Option Addr) (ln lc : Nat) (T : List S9.Tx) (ba : Option Addr) (bn bc : Nat) (w : World)
    (hp : At w p [.map (some m), .int .u32 vh] 38) (hm : BMap w m L c) (hs : atB L s = some (i, b)) (hb : At w b [.int .u32 (vd : Nat), .int .u64 (nx : Nat), .slice ma n mc] 59)
    (ht : Pow w) (hz : NoZero w (.slice ba bn bc)) (ha : AllOk w (.slice la ln lc) T) (hbl : bn ≤ 16384) (hn : 200 ≤ n) :
    Calls Tryd.prog 6 #[.pointer (some ⟨p, 0, none⟩), .string s, .slice la ln lc, .string ⟨#[]⟩, .slice ba bn bc] w fun e w' => e = .returned (.tuple #[.int .u32 0, .int .i64 4]) ∧ Below w.heap.size w w' := by
  have hb0 : Below w.heap.size w (w.alloc (.cells #[.pointer none, .int .u32 0, .slice none 0 0, .int .i64 0, .slice la ln lc, .string ⟨#[]⟩, .slice ba bn bc] 46)) := (Below.refl _ w).alloc (Nat.le_refl _) _
  have hq0 := At.new w [.pointer none, .int .u32 0, .slice none 0 0, .int .i64 0, .slice la ln lc, .string ⟨#[]⟩, .slice ba bn bc] 46
  have hb1 : Below w.heap.size w ((w.alloc (.cells #[.pointer none, .int .u32 0, .slice none 0 0, .int .i64 0, .slice la ln lc, .string ⟨#[]⟩, .slice ba bn bc] 46)).setCell ⟨w.heap.size, 0, none⟩ (.pointer (some ⟨p, 0, none⟩))) := hb0.setCell (p := ⟨w.heap.size, 0, none⟩) (Nat.le_refl _) _
  have hq1 := hq0.set 0 (.pointer (some ⟨p, 0, none⟩))
  have hput := put_full b w.heap.size (.pointer (some ⟨p, 0, none⟩)) vd nx n ma mc (.slice la ln lc) ba bn bc T (.slice none 0 0) (.int .i64 0) _ (hb.below hb1) hq1 (ht.below hb1 (Nat.le_refl _)) (hz.below hb1) (ha.below hb1) hbl hn
  have hlt : w.heap.size < ((w.alloc (.cells #[.pointer none, .int .u32 0, .slice none 0 0, .int .i64 0, .slice la ln lc, .string ⟨#[]⟩, .slice ba bn bc] 46)).setCell ⟨w.heap.size, 0, none⟩ (.pointer (some ⟨p, 0, none⟩))).heap.size := hq1.lt
  have hch := change_30 p m w.heap.size b i c vh L s _ _ _ _ (fun e w' h => ⟨4, h.1⟩) (hp.below hb0) (hm.below hb0) hs hq0 hput
  have HCH := Lib.hid (hch.mono fun e w' h => (And.intro h.1 (And.intro (At.below hq1 h.2) (Below.trans hb1 (h.2.mono hb1.size)) : _) : _))
  clear hch hput hb0 hb1 hq0 hq1 hp hm hb ht hz ha hlt
  go_enter Tryd.func6, Tryd.ntmps6
  go_upto_region 3 with (go_at_call 12; refine HCH.out.mono ?_; rintro e w2 ⟨rfl, hq2, hbs⟩; have q1 := hq2.cell 1 _ rfl; have HE := Lib.hid hbs; clear hq2 hbs)
  go_wp2_with fail
  exact bodyPost_ret (results_tmp2 rfl _ _ _) rfl ⟨rfl, HE.out⟩
end Go.Proofs.YtacalpgiopgkkaaDoor
end

section
namespace Go.Proofs.YtacalpgiopgkkaaDoor
set_option linter.unusedVariables false
open Go.RowKit Go.MapKept
attribute [local go_sem] Oper.semAt_some

theorem few_nil (w : World) : Calls Tryd.prog 35 #[.slice none 0 0] w fun e w' => e = .returned (.bool true) ∧ Below w.heap.size w w' :=
  (S9.few_any (.slice none 0 0) [] w (S9.RowV.none_ w 1) (by simp) (by simp)).mono fun e w' h => ⟨by rw [h.1]; rfl, h.2⟩
set_option maxRecDepth 100000 in
set_option maxHeartbeats 2000000 in
theorem all_nil (w : World) : Calls Tryd.prog 21 #[.slice none 0 0] w fun e w' => e = .returned (.tuple #[.slice none 0 0, .int .i64 0]) ∧ Below w.heap.size w w' := by
  go_enter Tryd.func21, Tryd.ntmps21
  go_wp2_with fail
  go_loopw [4, 11] (fun s i wr => s = .slice none 0 0 ∧ i = .int .i64 0 ∧ wr = w) (fun _ _ _ => 0)
  case atStart => exact ⟨rfl, rfl, rfl⟩
  case round =>
    obtain ⟨rfl, rfl, rfl⟩ := hrel
    go_wp2_with (first
      | (go_at_call 26; refine (Tryd.slices_Sort_string_none none 0 wr).mono ?_; rintro e w1 ⟨rfl, rfl⟩)
      | (go_at_call 34; refine (Tryd.slices_Compact_string_empty none 0 w1).mono ?_; rintro e w2 ⟨rfl, rfl⟩)
      | (go_at_call 35; refine (few_nil w2).mono ?_; rintro e w3 ⟨rfl, hb3⟩; have HB := Lib.hid hb3; clear hb3))
    exact bodyPost_ret (results_tmp2 rfl _ _ _) rfl ⟨rfl, HB.out⟩
theorem allOk_nil (w : World) : AllOk w (.slice none 0 0) [] := fun W _ => (all_nil W).mono fun e W' h => ⟨_, h.1, World.ownsRow_nil _ _ _ _, h.2⟩
theorem noZero_nil (w : World) : NoZero w (.slice none 0 0) := fun W _ => Tryd.bytes_IndexByte_nil 0 W
end Go.Proofs.YtacalpgiopgkkaaDoor
end

section
namespace Go.Proofs.YtacalpgiopgkkaaDoor
set_option linter.unusedVariables false
open Go.RowKit Go.MapKept

theorem fold_del : S9.foldF delT = some delT := by decide +kernel
theorem few_del : S9.fewL [delT] = true := by decide +kernel
theorem set_del : S9.setT [delT] = [delT] := by
  unfold S9.setT S9.sortT
  simp [Lib.compact]
  rfl
theorem allR_del : S9.allR [delT] = .ok [delT] := by
  unfold S9.allR S9.foldsL
  simp [fold_del, set_del, few_del]
theorem all_del (w : World) (g c : Nat) (hc : 1 ≤ c) (hm : c ≤ maxLen) (h : w.cell? ⟨g, 0, none⟩ = some (.string delB)) : AllOk w (.slice (some ⟨g, 0, none⟩) 1 c) [delT] := by
  intro W hW
  have hg := World.block_lt_of_cell? w _ h
  have hr : S9.RowT W (.slice (some ⟨g, 0, none⟩) 1 c) [delT] := by
    refine ⟨_, c, rfl, hc, hm, rfl, by simp, fun x hx j hj => ?_⟩
    obtain rfl := Option.some.inj hx
    have hj0 : j = 0 := by simpa using hj
    subst hj0
    exact (hW.cell (p := ⟨g, 0, none⟩) hg).trans h
  refine (S9.all_any _ [delT] W hr (by simp) (by simp) (by decide)).mono ?_
  rintro e W' ⟨o, code, rfl, hall, hb⟩
  rw [allR_del] at hall
  obtain ⟨ho, rfl⟩ := hall
  exact ⟨o, rfl, ho, hb⟩
theorem nozero_x (w : World) (g c : Nat) (h : w.cell? ⟨g, 0, none⟩ = some (.int .u8 120)) : NoZero w (.slice (some ⟨g, 0, none⟩) 1 c) := by
  intro W hW
  have hg := World.block_lt_of_cell? w _ h
  refine (Tryd.bytes_IndexByte g 0 1 c [120] 0 W rfl (fun i hi => ?_)).mono ?_
  · have hj0 : i = 0 := by omega
    subst hj0
    exact (hW.cell (p := ⟨g, 0, none⟩) hg).trans h
  · rintro e W' ⟨he, hw⟩
    exact ⟨by rw [he]; rfl, hw⟩
end Go.Proofs.YtacalpgiopgkkaaDoor
end

section
namespace Go.Proofs.YtacalpgiopgkkaaDoor
set_option linter.unusedVariables false
open Go.RowKit Go.MapKept
attribute [local go_sem] Oper.semAt_some

theorem clone_u32 (v : Value) (xs : List Int) (w : World) (h : S9.RowV w 1 v xs.length (S9.u32s xs)) (hs : xs.length ≤ 35184372087808) : Calls Tryd.prog 17 #[v] w fun e w' => ∃ o, e = .returned o ∧ w'.ownsRow w.heap.size 26 1 o xs.length (S9.u32s xs) ∧ Below w.heap.size w w' := by
  obtain ⟨i0, hi, hz0, hz1, hz2⟩ := info_parts info30
  obtain ⟨a, cap, rfl, hc, hm, hlen, hn, hcell⟩ := h
  cases a with
  | none =>
    obtain ⟨h0, rfl⟩ := hn rfl
    obtain rfl : xs = [] := List.eq_nil_of_length_eq_zero h0
    have he := Lib.run_eql_slice_nil (P := Tryd.prog)
    go_enter Tryd.func17, Tryd.ntmps17
    go_wp2_with fail
    go_ret
    exact ⟨_, rfl, World.ownsRow_nil _ _ _ _, Below.refl _ _⟩
  | some x =>
    have he := fun (w : World) => Lib.run_eql_slice_nil (P := Tryd.prog) w 41 26 (some x) xs.length cap 0 0 Tryd.underlying41
    have hown0 := World.ownsRow_lit (base := w.heap.size) (e := 26) (size := 1) w #[] 0 (Nat.le_refl _) (by decide) rfl
    have hnews : ∀ j u, (S9.u32s xs)[j]? = some u → (w.alloc (.cells #[] 26)).cell? (x.add j) = some u := by
      intro j u hj
      obtain ⟨hjl, hje⟩ := List.getElem?_eq_some_iff.1 hj
      have hx := hcell x rfl j hjl
      rw [hje] at hx
      rw [Below.cell ((Below.refl w.heap.size w).alloc (Nat.le_refl _) _) (World.block_lt_of_cell? w _ hx)]
      exact hx
    have one : ∀ u ∈ S9.u32s xs, u.oneCell' = true := by
      intro u hu
      obtain ⟨_, _, rfl⟩ := List.mem_map.1 hu
      rfl
    have Hcell := Lib.hid hcell
    have Hnews := Lib.hid hnews
    have HS := Lib.hid hs
    obtain ⟨len, hlen2⟩ : ∃ n, xs.length = n := ⟨_, rfl⟩
    rw [hlen2] at hc he ⊢
    have HL := Lib.hid hlen2
    clear hcell hnews hs hlen2 hlen
    go_enter Tryd.func17, Tryd.ntmps17
    go_wp2_with (at_builtin; go_loud (refine wpList_append_own _ rfl (.tmp 5) (.tmp 6) 41 rfl (w.heap.size) 26 i0 (.int .u32 0) 1 4 Tryd.underlying41 hi hz0 hz1 hz2 rfl (by decide) _ _ _ rfl hown0 x len cap (S9.u32s xs) rfl (by rw [S9.u32s_length, HL.out]; simp) Hnews.out one (by simp [maxLen]; have := HS.out; have := HL.out; omega) (by simp; have := HS.out; have := HL.out; omega) (by simp) ?_))
    intro o w1 ho hgr _
    go_wp2_with fail
    go_ret
    refine ⟨_, rfl, ?_, ?_⟩
    · simpa using ho
    · exact ((Below.refl _ _).alloc (Nat.le_refl _) _).grown hgr (by simp) (by intro k hk; simp [Value.ownBlock] at hk; omega)
end Go.Proofs.YtacalpgiopgkkaaDoor
end

section
namespace Go.Proofs.YtacalpgiopgkkaaDoor
set_option linter.unusedVariables false
open Go.RowKit Go.MapKept
attribute [local go_sem] Oper.semAt_some

theorem own_u32 {w : World} {B : Nat} {v : Value} (h : w.ownsRow B 26 1 v ([1] : List Int).length (S9.u32s [1])) : ∃ g c, v = .slice (some ⟨g, 0, none⟩) 1 c ∧ B ≤ g ∧ w.cell? ⟨g, 0, none⟩ = some (.int .u32 1) := by
  rcases h.2 with ⟨_, h0⟩ | ⟨g, cp, cur, e, hB, hh, _⟩
  · simp at h0
  · subst e
    exact ⟨g, cp, rfl, hB, (World.ownsRow.cellAt h 0 (by simp)).trans rfl⟩
set_option maxRecDepth 100000 in
set_option maxHeartbeats 4000000 in
theorem expunge_ok (p m b i c vd nx g mc f fc u uc N : Nat) (vh : Int) (L : List (ByteArray × Nat × Nat)) (s : ByteArray) (da : Option Addr) (dn dc : Nat) (w : World) (hN : N ≤ b) (hN2 : N ≤ w.heap.size)
    (hp : At w p [.map (some m), .int .u32 vh] 38) (hm : BMap w m L c) (hs : atB L s = some (i, b)) (hb : At w b [.int .u32 (vd : Nat), .int .u64 (nx : Nat), .slice (some ⟨g, 0, none⟩) 1 mc] 59) (hmc : 1 ≤ mc)
    (hg : ∀ j v, ([.int .u32 1, .slice (some ⟨f, 0, none⟩) 1 fc, .string noneB, .slice da dn dc] : List Value)[j]? = some v → w.cell? ⟨g, j, none⟩ = some v)
    (hu : w.cell? ⟨u, 0, none⟩ = some (.int .u32 1)) (huc : 1 ≤ uc ∧ uc ≤ maxLen) (hf : w.cell? ⟨f, 0, none⟩ = some (.string delB)) :
    Calls Tryd.prog 11 #[.pointer (some ⟨p, 0, none⟩), .string s, .slice (some ⟨u, 0, none⟩) 1 uc] w fun e w' => (∃ ga gc, e = .returned (.tuple #[.slice ga 1 gc, .int .i64 0])) ∧ Below N w w' := by
  have hrow : S9.RowV w 1 (.slice (some ⟨u, 0, none⟩) 1 uc) ([1] : List Int).length (S9.u32s [1]) := ⟨_, uc, rfl, huc.1, huc.2, rfl, by simp, fun x hx j hj => by
    obtain rfl := Option.some.inj hx
    have : j = 0 := by simpa using hj
    subst this
    exact hu⟩
  have HC := Lib.hid (clone_u32 _ [1] w hrow (by decide))
  have H0 := Lib.hid (And.intro hp (And.intro hm (And.intro hb (And.intro hg (And.intro hf (World.block_lt_of_cell? w _ hf))))))
  have HGL := Lib.hid (World.block_lt_of_cell? w _ (hg 0 _ rfl))
  clear hp hm hb hg hf hu hrow
  go_enter Tryd.func11, Tryd.ntmps11
  go_upto_region 2 with (go_at_call 17; refine HC.out.mono ?_; rintro e w1 ⟨o, rfl, ho, hb1⟩; obtain ⟨g2, c2, rfl, hg2, hcl⟩ := own_u32 ho; have HU := Lib.hid (And.intro hg2 (And.intro hcl hb1)); clear ho hg2 hcl hb1)
  have hb1 := HU.out.2.2
  have hb2 := (Below.refl w1.heap.size w1).alloc (Nat.le_refl _) (.cells #[.pointer none, .int .u32 0, .slice (some ⟨g2, 0, none⟩) 1 c2, .int .i64 0, .slice none 0 0, .string ⟨#[]⟩, .slice none 0 0] 46)
  have hq0 := At.new w1 [.pointer none, .int .u32 0, .slice (some ⟨g2, 0, none⟩) 1 c2, .int .i64 0, .slice none 0 0, .string ⟨#[]⟩, .slice none 0 0] 46
  have hb3 := hb2.setCell (p := ⟨w1.heap.size, 0, none⟩) (Nat.le_refl _) (.pointer (some ⟨p, 0, none⟩))
  have hq1 := hq0.set 0 (.pointer (some ⟨p, 0, none⟩))
  have hs1 := hb1.size
  have hbb := hb1.trans (hb3.mono hs1)
  have hex := expunge_one b w1.heap.size g g2 f mc c2 fc (.pointer (some ⟨p, 0, none⟩)) (.int .i64 0) (.slice none 0 0) (.string ⟨#[]⟩) (.slice none 0 0) (.slice none 0 0) (.slice da dn dc) vd nx _ N ⟨hN, by omega⟩ (H0.out.2.2.1.below hbb) hq1
    (fun j v hj => (hbb.cell (p := ⟨g, j, none⟩) HGL.out).trans (H0.out.2.2.2.1 j v hj)) hmc ⟨_, _, _, rfl⟩ ((hb3.cell (p := ⟨g2, 0, none⟩) (World.block_lt_of_cell? w1 _ HU.out.2.1)).trans HU.out.2.1) ((hbb.cell (p := ⟨f, 0, none⟩) H0.out.2.2.2.2.2).trans H0.out.2.2.2.2.1) (by have := H0.out.2.2.1.lt; omega)
  have hch := change_29 p m w1.heap.size b i c vh L s _ _ _ _ (fun e w' h => ⟨0, h.1⟩) (H0.out.1.below (hb1.trans (hb2.mono hs1))) (H0.out.2.1.below (hb1.trans (hb2.mono hs1))) hs hq0 hex
  have HCH := Lib.hid hch
  have HBB := Lib.hid (hbb.mono hN2)
  clear hch hex hq0 hq1 hb3 hb2 hb1 hbb
  go_wp2_with (go_at_call 12; refine HCH.out.mono ?_; rintro e w2 ⟨rfl, ⟨ga, gc, h2⟩, hb4⟩; have HB4 := Lib.hid hb4; clear hb4)
  refine bodyPost_ret (results_tmp2 rfl _ _ _) rfl ⟨⟨ga, gc, rfl⟩, ?_⟩
  exact HBB.out.trans HB4.out
end Go.Proofs.YtacalpgiopgkkaaDoor
end

section
namespace Go.Proofs.YtacalpgiopgkkaaDoor
set_option linter.unusedVariables false
open Go.RowKit Go.MapKept
attribute [local go_sem] Oper.semAt_some

theorem atB_one (s : ByteArray) (b c : Nat) : atB [(s, b, c)] s = some (0, b) := by simp [atB]
theorem row_x {W : World} {g : Nat} (h : W.heap[g]? = some (.cells #[.int .u8 120] 5 (1, 2))) : RowB W (.slice (some ⟨g, 0, none⟩) 1 1) [120] := by
  refine ⟨_, _, _, rfl, rfl, by decide, by decide, by decide, by simp, fun x hx i hi => ?_⟩
  obtain rfl := Option.some.inj hx
  have hi5 : i = 0 := by simpa using hi
  subst hi5
  rw [Addr.add_lit, Nat.zero_add, cell_of_row _ _ 0 _ 5 (1, 2) h]
  rfl
theorem own_msg {w : World} {mv x0 x1 x2 x3 : Value} (h : w.ownsRow 0 68 4 mv (0 + 1) ([] ++ [x0, x1, x2, x3])) : ∃ g c, mv = .slice (some ⟨g, 0, none⟩) 1 c ∧ 1 ≤ c ∧ ∀ j v, ([x0, x1, x2, x3] : List Value)[j]? = some v → w.cell? ⟨g, j, none⟩ = some v := by
  rcases h.2 with ⟨_, h0⟩ | ⟨g, cp, cur, e, hB, hh, h1, h2, h3, h4⟩
  · omega
  · subst e
    refine ⟨g, cp, rfl, by omega, fun j v hj => ?_⟩
    have hj4 : j < 4 := (List.getElem?_eq_some_iff.1 hj).1
    have := World.ownsRow.cellAt h j (by simpa using hj4)
    rw [this]
    exact hj
theorem own_flag {w : World} {B : Nat} {fl : Value} (h : S9.OwnT w B fl [delT]) : ∃ f c, fl = .slice (some ⟨f, 0, none⟩) 1 c ∧ w.cell? ⟨f, 0, none⟩ = some (.string delB) := by
  rcases h.2 with ⟨_, h0⟩ | ⟨g, cp, cur, e, hB, hh, _⟩
  · simp at h0
  · subst e
    exact ⟨g, cp, rfl, (World.ownsRow.cellAt h 0 (by simp)).trans rfl⟩
set_option maxRecDepth 100000 in
set_option maxHeartbeats 4000000 in
theorem awake_any (w : World) (ht : Pow w) : Calls Tryd.prog 5 #[] w fun e w' => e = .returned (.bool true) ∧ Below w.heap.size w w' := by
  have HT := Lib.hid ht
  clear ht
  go_enter Tryd.func5, Tryd.ntmps5
  go_upto_region 4 with (go_at_call 4; refine (new_any _).mono ?_; rintro e w1 ⟨p, m, b, rfl, h1, h2, h3, h4, h5, h6, hb1⟩; have H1 := Lib.hid (And.intro h1 (And.intro h2 (And.intro h3 (And.intro h4 (And.intro h5 (And.intro h6 hb1)))))); clear h1 h2 h3 h4 h5 h6 hb1)
  have kc := Go.Joins.run_convert_bytes_const_at (P := Tryd.prog) (w1.alloc (.cells #[.string ⟨#[92, 68, 101, 108, 101, 116, 101, 100]⟩] 9)) 40 5 #[.int .u8 120] 1 1 (w1.heap.size + 1) (by simp) Tryd.underlying40 Tryd.underlying5
  have hb3 := ((Below.refl w1.heap.size w1).alloc (Nat.le_refl _) (.cells #[.string ⟨#[92, 68, 101, 108, 101, 116, 101, 100]⟩] 9)).alloc (by simp) (.cells #[.int .u8 120] 5 (1, 2))
  have hx := heap_alloc_new (w1.alloc (.cells #[.string ⟨#[92, 68, 101, 108, 101, 116, 101, 100]⟩] 9)) (.cells #[.int .u8 120] 5 (1, 2))
  rw [show (w1.alloc (.cells #[.string ⟨#[92, 68, 101, 108, 101, 116, 101, 100]⟩] 9)).heap.size = w1.heap.size + 1 by simp] at hx
  have hy : ((w1.alloc (.cells #[.string ⟨#[92, 68, 101, 108, 101, 116, 101, 100]⟩] 9)).alloc (.cells #[.int .u8 120] 5 (1, 2))).heap[w1.heap.size]? = _ := (Below.heap_alloc _ _ _ (by simp)).trans (heap_alloc_new w1 _)
  have hs3 : ((w1.alloc (.cells #[.string ⟨#[92, 68, 101, 108, 101, 116, 101, 100]⟩] 9)).alloc (.cells #[.int .u8 120] 5 (1, 2))).heap.size = w1.heap.size + 2 := by simp
  go_upto_region 5 with fail
  clear kc
  generalize (w1.alloc (.cells #[.string ⟨#[92, 68, 101, 108, 101, 116, 101, 100]⟩] 9)).alloc (.cells #[.int .u8 120] 5 (1, 2)) = w3 at *
  obtain ⟨h1, h2, h3, h4, h5, h6, hb1⟩ := H1.out
  have hp3 := h1.below hb3
  have hm3 := h2.below hb3
  have hq3 := h3.below hb3
  have cy := cell_of_row w3 w1.heap.size 0 _ _ _ hy
  have cx := cell_of_row w3 (w1.heap.size + 1) 0 _ _ _ hx
  have hbl := h3.lt
  have hap := append_ok 0 p m b 0 1 1 1 0 1 [(inboxB, b, 0)] inboxB (.slice none 0 0) [] (some ⟨w1.heap.size, 0, none⟩) 1 1 [delT] (some ⟨w1.heap.size + 1, 0, none⟩) 1 [120] w3 hp3 hm3 (atB_one _ _ _) hq3 (World.ownsRow_nil _ _ _ _) (by simp [Value.ownBlock]) (HT.out.below (hb1.trans (hb3.mono hb1.size)) (Nat.le_refl _)) (nozero_x w3 _ 1 cx) (all_del w3 _ 1 (by decide) (by decide) cy) (fun W hW => row_x ((hW.block _ (by omega) (by omega)).trans hx)) (by decide) (by decide) (by decide) (Nat.zero_le _)
  have HAP := Lib.hid hap
  have H3 := Lib.hid (And.intro hp3 (And.intro hm3 (hb1.trans (hb3.mono hb1.size))))
  have HPB := Lib.hid (And.intro h4 (And.intro h5 h6))
  clear hap hp3 hm3 hq3 cy cx hbl hb3 hx hy hs3 h1 h2 h3 h4 h5 h6 hb1 H1
  refine HAP.out.mono ?_
  rintro e w4 ⟨rfl, ⟨mv, fl, bd, hb4, hr4, hfl, hbd⟩, hbs⟩
  obtain ⟨g, mc, rfl, hmc, hgc⟩ := own_msg hr4
  obtain ⟨f, fc, rfl, hfc⟩ := own_flag hfl
  obtain ⟨da, dc, rfl⟩ := hbd.shape
  have hp4 := H3.out.1.beside hbs (by simp [Value.ownBlock]; have := HPB.out; omega)
  have hm4 : BMap w4 m [(inboxB, b, 0)] 1 := (hbs.block m (Array.getElem?_eq_some_iff.1 H3.out.2.1).1 (by simp [Value.ownBlock]; have := HPB.out; omega)).trans H3.out.2.1
  have hbw : Below w.heap.size w w4 := H3.out.2.2.trans (hbs.below (fun k hk => by rcases hk with h | h; (have := HPB.out; omega); simp [Value.ownBlock] at h) H3.out.2.2.size)
  have hb5 := (Below.refl w4.heap.size w4).alloc (Nat.le_refl _) (.cells #[.int .u32 1] 26)
  have hu : (w4.alloc (.cells #[.int .u32 1] 26)).cell? ⟨w4.heap.size, 0, none⟩ = some (.int .u32 1) := (cell_of_row _ _ 0 _ _ _ (heap_alloc_new w4 (.cells #[.int .u32 1] 26))).trans rfl
  have hgl := World.block_lt_of_cell? w4 _ (hgc 0 _ rfl)
  have hfl2 := World.block_lt_of_cell? w4 _ hfc
  have hex := expunge_ok p m b 0 1 1 2 g mc f fc w4.heap.size 1 w.heap.size 1 [(inboxB, b, 0)] inboxB da 1 dc _ (by have := HPB.out; omega) (by have := hbw.size; have := hb5.size; omega) (hp4.below hb5) (hm4.below hb5) (atB_one _ _ _) (hb4.below hb5) hmc
    (fun j v hj => (hb5.cell (p := ⟨g, j, none⟩) hgl).trans (hgc j v hj)) hu ⟨by decide, by decide⟩ ((hb5.cell (p := ⟨f, 0, none⟩) hfl2).trans hfc)
  have HEX := Lib.hid hex
  have HBW := Lib.hid (hbw.alloc hbw.size (.cells #[.int .u32 1] 26))
  clear hex hb5 hu hgl hfl2 hp4 hm4 hbw hb4 hr4 hfl hbd hbs hgc hfc
  go_wp2_with (go_at_call 11; refine HEX.out.mono ?_; rintro e w6 ⟨⟨ga, gc, rfl⟩, hb6⟩; have HB6 := Lib.hid hb6; clear hb6)
  go_ret
  exact ⟨rfl, HBW.out.trans HB6.out⟩
end Go.Proofs.YtacalpgiopgkkaaDoor
end
