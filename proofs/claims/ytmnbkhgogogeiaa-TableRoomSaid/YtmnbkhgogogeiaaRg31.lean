/-
  Several texts of one proof, each in a section of its own: Wake, Nil4, NilW.
-/
import Derived.Test.YtmnbkhgogogeiaaRg25
namespace Go.Proofs.Ytmnbkhgogogeiaa
section
set_option linter.unusedVariables false
open Go.RowKit

def twoC : List Chg := [⟨[97], [49], false⟩, ⟨[98], [50], false⟩]
theorem twoC_at {w : World} {p3 p4 p5 p6 : Nat} (h3 : RowB w (.slice (some ⟨p3, 0, none⟩) 1 1) [97]) (h4 : RowB w (.slice (some ⟨p4, 0, none⟩) 1 1) [49]) (h5 : RowB w (.slice (some ⟨p5, 0, none⟩) 1 1) [98]) (h6 : RowB w (.slice (some ⟨p6, 0, none⟩) 1 1) [50]) :
    ChgV (w.alloc (.cells #[.slice (some ⟨p3, 0, none⟩) 1 1, .slice (some ⟨p4, 0, none⟩) 1 1, .bool false, .slice (some ⟨p5, 0, none⟩) 1 1, .slice (some ⟨p6, 0, none⟩) 1 1, .bool false] 35)) (.slice (some ⟨w.heap.size, 0, none⟩) 2 2) twoC := by
  have hA : Below w.heap.size w (w.alloc (.cells #[.slice (some ⟨p3, 0, none⟩) 1 1, .slice (some ⟨p4, 0, none⟩) 1 1, .bool false, .slice (some ⟨p5, 0, none⟩) 1 1, .slice (some ⟨p6, 0, none⟩) 1 1, .bool false] 35)) := (Below.refl _ _).alloc (Nat.le_refl _) _
  have hh := heap_alloc_new w (.cells #[.slice (some ⟨p3, 0, none⟩) 1 1, .slice (some ⟨p4, 0, none⟩) 1 1, .bool false, .slice (some ⟨p5, 0, none⟩) 1 1, .slice (some ⟨p6, 0, none⟩) 1 1, .bool false] 35)
  have fl := fun j => cell_of_row _ w.heap.size j _ _ _ hh
  refine ⟨_, 2, rfl, by decide, by decide, .inr ⟨w.heap.size, 0, rfl, fun i hi => ?_⟩⟩
  have hi2 : i = 0 ∨ i = 1 := by have : i < 2 := hi; omega
  rcases hi2 with rfl | rfl
  · exact ⟨_, _, _, _, _, _, fl 0, fl 1, fl 2, h3.below hA, h4.below hA⟩
  · exact ⟨_, _, _, _, _, _, fl 3, fl 4, fl 5, h5.below hA, h6.below hA⟩
set_option maxRecDepth 100000 in
set_option maxHeartbeats 4000000 in
theorem twake_any (w : World) : Calls Try.prog 9 #[] w fun e w' => e = .returned (.bool true) ∧ Below w.heap.size w w' := by
  go_enter Try.func9, Try.ntmps9
  go_wp2_with fail
  refine (new_held 400 w (by decide) (by decide)).mono ?_
  rintro e w1 ⟨pd, kv, rfl, hd1⟩
  have HD1 := Lib.hid hd1
  clear hd1
  go_wp2_with fail
  refine (topen_fresh HD1.out (by decide) (by decide)).mono ?_
  rintro e w2 ⟨pt, pl, rfl, ht2, hb2⟩
  have HT2 := Lib.hid ht2
  clear ht2 hb2 HD1
  go_wp2_with fail
  have kc := Go.Joins.run_convert_bytes_const_at (P := Try.prog) w2 23 5 #[.int .u8 97] 1 1 w2.heap.size rfl Try.underlying23 Try.underlying5
  rw [kc]
  clear kc
  simp only [Result.andThen]
  rw [Oper.upon_value]
  have hA : Below w2.heap.size w2 (w2.alloc (.cells #[.int .u8 97] 5 (1, 2))) := (Below.refl _ _).alloc (Nat.le_refl _) _
  have HR3 := Lib.hid (constB w2 (1, 2) [97] (by decide) (by decide))
  have HT3 : Hid (Tb w.heap.size w (w2.alloc (.cells #[.int .u8 97] 5 (1, 2))) pt pl pd kv (400 - 2) 0 400 []) := Lib.hid (HT2.out.below hA)
  clear hA HT2 
  change Hid (RowB (w2.alloc (.cells #[.int .u8 97] 5 (1, 2))) (.slice (some ⟨w2.heap.size, 0, none⟩) 1 1) [97]) at HR3
  generalize w2.alloc (.cells #[.int .u8 97] 5 (1, 2)) = w3 at *
  generalize w2.heap.size = p3 at *
  go_wp2_with fail
  have kc := Go.Joins.run_convert_bytes_const_at (P := Try.prog) w3 23 5 #[.int .u8 49] 1 1 w3.heap.size rfl Try.underlying23 Try.underlying5
  rw [kc]
  clear kc
  simp only [Result.andThen]
  rw [Oper.upon_value]
  have hA : Below w3.heap.size w3 (w3.alloc (.cells #[.int .u8 49] 5 (1, 2))) := (Below.refl _ _).alloc (Nat.le_refl _) _
  have HR4 := Lib.hid (constB w3 (1, 2) [49] (by decide) (by decide))
  have HT4 : Hid (Tb w.heap.size w (w3.alloc (.cells #[.int .u8 49] 5 (1, 2))) pt pl pd kv (400 - 2) 0 400 []) := Lib.hid (HT3.out.below hA)
  have HR3' := Lib.hid (HR3.out.below hA)
  clear hA HT3 HR3
  change Hid (RowB (w3.alloc (.cells #[.int .u8 49] 5 (1, 2))) (.slice (some ⟨w3.heap.size, 0, none⟩) 1 1) [49]) at HR4
  generalize w3.alloc (.cells #[.int .u8 49] 5 (1, 2)) = w4 at *
  generalize w3.heap.size = p4 at *
  go_wp2_with fail
  have kc := Go.Joins.run_convert_bytes_const_at (P := Try.prog) w4 23 5 #[.int .u8 98] 1 1 w4.heap.size rfl Try.underlying23 Try.underlying5
  rw [kc]
  clear kc
  simp only [Result.andThen]
  rw [Oper.upon_value]
  have hA : Below w4.heap.size w4 (w4.alloc (.cells #[.int .u8 98] 5 (1, 2))) := (Below.refl _ _).alloc (Nat.le_refl _) _
  have HR5 := Lib.hid (constB w4 (1, 2) [98] (by decide) (by decide))
  have HT5 : Hid (Tb w.heap.size w (w4.alloc (.cells #[.int .u8 98] 5 (1, 2))) pt pl pd kv (400 - 2) 0 400 []) := Lib.hid (HT4.out.below hA)
  have HR3'' := Lib.hid (HR3'.out.below hA)
  have HR4' := Lib.hid (HR4.out.below hA)
  clear hA HT4 HR3' HR4
  change Hid (RowB (w4.alloc (.cells #[.int .u8 98] 5 (1, 2))) (.slice (some ⟨w4.heap.size, 0, none⟩) 1 1) [98]) at HR5
  generalize w4.alloc (.cells #[.int .u8 98] 5 (1, 2)) = w5 at *
  generalize w4.heap.size = p5 at *
  go_wp2_with fail
  have kc := Go.Joins.run_convert_bytes_const_at (P := Try.prog) w5 23 5 #[.int .u8 50] 1 1 w5.heap.size rfl Try.underlying23 Try.underlying5
  rw [kc]
  clear kc
  simp only [Result.andThen]
  rw [Oper.upon_value]
  have hA : Below w5.heap.size w5 (w5.alloc (.cells #[.int .u8 50] 5 (1, 2))) := (Below.refl _ _).alloc (Nat.le_refl _) _
  have HR6 := Lib.hid (constB w5 (1, 2) [50] (by decide) (by decide))
  have HT6 : Hid (Tb w.heap.size w (w5.alloc (.cells #[.int .u8 50] 5 (1, 2))) pt pl pd kv (400 - 2) 0 400 []) := Lib.hid (HT5.out.below hA)
  have HR3''' := Lib.hid (HR3''.out.below hA)
  have HR4'' := Lib.hid (HR4'.out.below hA)
  have HR5' := Lib.hid (HR5.out.below hA)
  clear hA HT5 HR3'' HR4' HR5
  change Hid (RowB (w5.alloc (.cells #[.int .u8 50] 5 (1, 2))) (.slice (some ⟨w5.heap.size, 0, none⟩) 1 1) [50]) at HR6
  generalize w5.alloc (.cells #[.int .u8 50] 5 (1, 2)) = w6 at *
  generalize w5.heap.size = p6 at *
  go_wp2_with fail
  have hA7 : Below w6.heap.size w6 (w6.alloc (.cells #[.slice (some ⟨p3, 0, none⟩) 1 1, .slice (some ⟨p4, 0, none⟩) 1 1, .bool false, .slice (some ⟨p5, 0, none⟩) 1 1, .slice (some ⟨p6, 0, none⟩) 1 1, .bool false] 35)) := (Below.refl _ _).alloc (Nat.le_refl _) _
  have HT7 := Lib.hid (HT6.out.below hA7)
  have hB7 : w.heap.size ≤ (w6.alloc (.cells #[.slice (some ⟨p3, 0, none⟩) 1 1, .slice (some ⟨p4, 0, none⟩) 1 1, .bool false, .slice (some ⟨p5, 0, none⟩) 1 1, .slice (some ⟨p6, 0, none⟩) 1 1, .bool false] 35)).heap.size := by
    obtain ⟨⟨s, S, W, hl, _⟩, _⟩ := HT7.out
    exact hl.disk.below.size
  refine (do_end HT7.out (C := twoC) (twoC_at HR3'''.out HR4''.out HR5'.out HR6.out) (by decide) (by decide) (by decide) (by decide) (by decide) hB7 74 (by decide) (by decide) (by decide) (by decide) (by decide)).mono ?_
  rintro e w8 ⟨rfl, ht8, -⟩
  have HT8 : Hid (Tb w.heap.size w w8 pt pl pd kv (400 - 2) (0 + cellsN 74) 400 [([97], [49]), ([98], [50])]) := Lib.hid ht8
  clear ht8 hB7 hA7 HT7 HT6 HR3''' HR4'' HR5' HR6
  go_wp2_with fail
  have kc := Go.Joins.run_convert_bytes_const_at (P := Try.prog) w8 23 5 #[.int .u8 98] 1 1 w8.heap.size rfl Try.underlying23 Try.underlying5
  rw [kc]
  clear kc
  simp only [Result.andThen]
  rw [Oper.upon_value]
  have HR9 : Hid (RowB (w8.alloc (.cells #[.int .u8 98] 5 (1, 2))) (.slice (some ⟨w8.heap.size, 0, none⟩) 1 1) [98]) := Lib.hid (constB w8 (1, 2) [98] (by decide) (by decide))
  have HT9 : Hid (Tb w.heap.size w (w8.alloc (.cells #[.int .u8 98] 5 (1, 2))) pt pl pd kv (400 - 2) (0 + cellsN 74) 400 [([97], [49]), ([98], [50])]) := Lib.hid (HT8.out.below ((Below.refl _ _).alloc (Nat.le_refl _) _))
  clear HT8
  go_wp2_with fail
  refine (get_yes HT9.out HR9.out (by decide) 1 (val := [50]) rfl (by decide) (by decide)).mono ?_
  rintro e w10 ⟨o, rfl, ho, hb10⟩
  obtain ⟨oa, oc, ho2⟩ : ∃ oa oc, o = .slice oa 1 oc := ho.shape
  subst ho2
  have HT10 := Lib.hid (HT9.out.below hb10)
  have hs := run_str (ho.rowB (by intro n hn; simp at hn; omega))
  rw [show strN [50] = ⟨#[50]⟩ by decide] at hs
  have HLE := Lib.hid (len_any HT10.out)
  have HBF : Hid (Below w.heap.size w w10) := Lib.hid (by
    obtain ⟨⟨s, S, W, hl, _⟩, _⟩ := HT10.out
    exact hl.disk.below)
  clear ho hb10 HT9 HR9
  go_wp2_with (first | (go_at_call 22; refine HLE.out.mono ?_; rintro e w' ⟨rfl, rfl⟩))
  go_ret
  exact ⟨rfl, HBF.out⟩
end
section
set_option linter.unusedVariables false
open Go.RowKit

set_option maxRecDepth 100000 in
theorem topen_nil (w : World) : Calls Try.prog 8 #[.pointer none] w fun e w' => e = .returned (.tuple #[.pointer none, .int .i64 2]) ∧ w = w' := by
  go_enter Try.func8, Try.ntmps8
  go_wp2_with (first | (go_at_call 25; refine (open_nil _).mono ?_; rintro e w' ⟨rfl, rfl⟩))
  exact bodyPost_ret (v := .tuple #[.pointer none, .int .i64 2]) (by simp [results, Try.results8, go_sem]) rfl ⟨rfl, rfl⟩
set_option maxRecDepth 100000 in
theorem tnone_nil (w : World) : Calls Try.prog 31 #[.pointer none] w fun e w' => e = .returned (.bool true) ∧ w = w' := by
  go_enter Try.func31, Try.ntmps31
  go_wp2_with fail
  go_ret
  exact ⟨rfl, rfl⟩
set_option maxRecDepth 100000 in
theorem get_nil (v : Value) (w : World) : Calls Try.prog 17 #[.pointer none, v] w fun e w' => e = .returned (.tuple #[.slice none 0 0, .bool false]) ∧ w = w' := by
  go_enter Try.func17, Try.ntmps17
  go_wp2_with fail
  exact bodyPost_ret (v := .tuple #[.slice none 0 0, .bool false]) (by simp [results, Try.results17, go_sem]) rfl ⟨rfl, rfl⟩
set_option maxRecDepth 100000 in
theorem do_nil (v : Value) (w : World) : Calls Try.prog 12 #[.pointer none, v] w fun e w' => e = .returned (.int .i64 2) ∧ w = w' := by
  go_enter Try.func12, Try.ntmps12
  go_wp2_with (first | (go_at_call 31; refine (tnone_nil _).mono ?_; rintro e w' ⟨rfl, rfl⟩))
  go_ret
  exact ⟨rfl, rfl⟩
set_option maxRecDepth 100000 in
theorem compact_nil (w : World) : Calls Try.prog 23 #[.pointer none] w fun e w' => e = .returned (.int .i64 2) ∧ w = w' := by
  go_enter Try.func23, Try.ntmps23
  go_wp2_with (first | (go_at_call 31; refine (tnone_nil _).mono ?_; rintro e w' ⟨rfl, rfl⟩))
  go_ret
  exact ⟨rfl, rfl⟩
set_option maxRecDepth 100000 in
theorem len_nil (w : World) : Calls Try.prog 22 #[.pointer none] w fun e w' => e = .returned (.int .i64 0) ∧ w = w' := by
  go_enter Try.func22, Try.ntmps22
  go_wp2_with fail
  go_ret
  exact ⟨rfl, rfl⟩
set_option maxRecDepth 100000 in
theorem room_nil (w : World) : Calls Try.prog 24 #[.pointer none] w fun e w' => e = .returned (.bool false) ∧ ∃ n, w' = w.drewN n := by
  have HN := Lib.hid (fun W => tnone_nil W)
  go_enter Try.func24, Try.ntmps24
  go_wp2_with fail
  go_quiet ((go_at_call 31; exact Calls.quiet_of_same ((HN.out _).mono fun e w' h => ⟨h.1, h.2.symm⟩)))
  go_wp2_with fail
  go_ret
  exact ⟨rfl, _, rfl⟩
set_option maxRecDepth 100000 in
theorem scan_nil (v : Value) (w : World) : Calls Try.prog 21 #[.pointer none, v, .slice none 0 0] w fun e w' => e = .returned (.func (.func 39) #[] #[.pointer (some ⟨w.heap.size, 0, none⟩)]) ∧ w' = w.alloc (.cells #[.slice none 0 0] 66) := by
  go_enter Try.func21, Try.ntmps21
  go_wp2_with fail
  go_ret
  exact ⟨rfl, rfl⟩
end
section
set_option linter.unusedVariables false
open Go.RowKit

set_option maxRecDepth 100000 in
set_option maxHeartbeats 4000000 in
theorem scan0_on (n p B : Nat) (Kp : World → World → Prop) :
    SeqOn Fence.wide n Try.prog 39 #[.pointer (some ⟨p, 0, none⟩)] (fun (_ : Unit) => #[undef, undef]) B Kp [] (fun W => W.cell? ⟨p, 0, none⟩ = some (.slice none 0 0)) := by
  intro y J Jx W hc hJ hJx hY h0
  refine callsIn_of_wp Try.func39 rfl trivial ?_ rfl
  simp only [Try.ntmps39, List.size_toArray, List.length_cons, List.length_nil, Nat.reduceAdd, Nat.reduceSub, Array.replicate_succ, Array.replicate_zero, List.push_toArray, List.append_toArray, List.nil_append, List.cons_append]
  gi_wp2
  gi_loopw [7] (fun i wr => i = .int .i64 0 ∧ wr = W) (fun _ _ => 0)
  case atStart => exact ⟨rfl, rfl⟩
  case round =>
    obtain ⟨rfl, rfl⟩ := hrel
    gi_wp2
    go_end0
    exact ⟨⟨_, rfl⟩, .inl h0⟩

set_option maxRecDepth 100000 in
theorem run_fn_nil (w : World) (p : Nat) : (binOp .eql 50 (.func (.func 39) #[] #[.pointer (some ⟨p, 0, none⟩)]) .nilFunc).run Try.prog w = .ok (.bool false) w := by
  first
    | rfl
    | kernel_rfl
set_option maxRecDepth 100000 in
set_option maxHeartbeats 8000000 in
theorem tnil_walk (v0 v1 : Value) (w : World) : Calls Try.prog 6 #[v0, v1] w fun e w' => e = .returned (.bool true) ∧ Below w.heap.size w w' := by
  refine (callsIn_wide (n := 3)).1 ?_
  refine callsIn_of_wp_marks Try.func6 rfl trivial ?_ rfl
  simp only [Try.ntmps6, List.size_toArray, List.length_cons, List.length_nil, Nat.reduceAdd, Nat.reduceSub, Array.replicate_succ, Array.replicate_zero, List.push_toArray, List.append_toArray, List.nil_append, List.cons_append]
  gi_wp2_with (first
    | (refine ⟨trivial, ?_⟩; refine (callsIn_wide.2 (topen_nil _)).mono ?_; rintro e w' ⟨rfl, rfl⟩)
    | (refine ⟨trivial, ?_⟩; refine (callsIn_wide.2 (get_nil _ _)).mono ?_; rintro e w' ⟨rfl, rfl⟩)
    | (refine ⟨trivial, ?_⟩; refine (callsIn_wide.2 (scan_nil _ _)).mono ?_; rintro e w' ⟨rfl, rfl⟩)
    | (refine ⟨trivial, ?_⟩; refine (callsIn_wide.2 (twake_any _)).mono ?_; rintro e w5 ⟨rfl, hb5⟩; have HB5 := Lib.hid hb5; clear hb5))
  have hbx : Boxed w5 w.heap.size 4 (.bool false) := (HB5.out.block w.heap.size (by simp; omega)).trans ((Boxed.new w 4 (.bool false)).alloc _)
  have hbp : Boxed w5 (w.heap.size + 1) 66 (.slice none 0 0) := by
    refine (HB5.out.block (w.heap.size + 1) (by simp)).trans ?_
    have := heap_alloc_new (w.alloc (.cells #[.bool false] 4)) (.cells #[.slice none 0 0] 66)
    rwa [World.size_alloc] at this
  rw [run_fn_nil]
  simp only [Result.andThen]
  rw [Oper.uponIn_value]
  gi_wp2
  have hA : Below w.heap.size w ((w.alloc (.cells #[.bool false] 4)).alloc (.cells #[.slice none 0 0] 66)) := ((Below.refl _ _).alloc (Nat.le_refl _) _).alloc (by simp) _
  have hbw : Below w.heap.size w w5 := hA.trans (HB5.out.mono hA.size)
  refine range_on (α := Unit) rfl (by omega) (gf := 39) (lb := #[.pointer (some ⟨w.heap.size + 1, 0, none⟩)]) rfl trivial (enters_of Try.func39 (by kernel_rfl) rfl)
    (scan0_on 2 (w.heap.size + 1) (w.heap.size + 1) (fun _ _ => True)) hbp.lt (fun r => ((hbp.alloc _).alloc _).cell) (fun _ _ => trivial) (fun _ _ _ _ => trivial) (fun _ => rfl)
    (fun pre W => Boxed W w.heap.size 4 (.bool false) ∧ Below w.heap.size w W) (fun _ _ _ => False)
    (OwnFrom.and (Own.from (boxed_own _ _ (fun _ => .bool false)) _) (ownFrom_below (Nat.le_refl _) hbw.size)) (fun c s A C row h => h.elim)
    (fun s A C hs hg => ⟨hs.1.kept hg (by simp), hs.2.grown hg hs.2.size (fun k e => by cases e; omega)⟩) (fun c s A C h => h.elim) ⟨hbx, hbw⟩ ?a1 ?assign ?body ?done ?stop
  case assign =>
    intro x W K hK
    gi_wp2
    exact hK
  case body =>
    intro pre x rest W hx
    simp at hx
  case done =>
    rintro W ⟨hbx, hB⟩ hK
    have hcx := hbx.cell
    have hfx := hbx.frozen
    have HBX := Lib.hid hbx
    have HB := Lib.hid hB
    have HK := Lib.hid hK
    clear hbx hB hK
    gi_wp2_with (first
      | (refine ⟨trivial, ?_⟩; refine (callsIn_wide.2 (do_nil _ _)).mono ?_; rintro e w' ⟨rfl, rfl⟩)
      | (refine ⟨trivial, ?_⟩; refine (callsIn_wide.2 (compact_nil _)).mono ?_; rintro e w' ⟨rfl, rfl⟩)
      | (refine ⟨trivial, ?_⟩; refine (callsIn_wide.2 (len_nil _)).mono ?_; rintro e w' ⟨rfl, rfl⟩)
      | (refine ⟨trivial, ?_⟩; refine (callsIn_wide.2 (room_nil _)).mono ?_; rintro e w' ⟨rfl, m, rfl⟩))
    have hkf : ((W.drewN m).setCell ⟨w.heap.size, 0, none⟩ (.bool true)).heap[w5.heap.size]? = some (.deferred (some [])) := (Below.heap_setCell _ _ _ _ (by have := hbx.lt; show w5.heap.size ≠ w.heap.size; omega)).trans HK.out
    have hbf : Boxed (((W.drewN m).setCell ⟨w.heap.size, 0, none⟩ (.bool true)).putObj w5.heap.size (.deferred none)) w.heap.size 4 (.bool true) := (World.putObj_heap_other (by have := hbx.lt; omega)).trans (Boxed.set (W := W.drewN m) (.bool true) HBX.out)
    have hcf := hbf.cell
    refine ⟨by simp, .inl ⟨_, _, rfl, run_takeDeferred hkf, ?_⟩⟩
    refine ⟨.bool true, ?_, rfl, ?_⟩
    · have h6 : Try.f6.results = #[.cell 4 4] := rfl
      simp only [results, h6]
      simp [go_sem, hcf]
    · exact ((below_drewN HB.out m).setCell (p := ⟨w.heap.size, 0, none⟩) (Nat.le_refl _) _).trans (belowK_b (w := w) (Nat.le_refl _) _ _ _ _ (by have := hbx.lt; omega) hkf rfl rfl)
  case stop =>
    rintro c pre W _ h
    exact h.elim
end
end Go.Proofs.Ytmnbkhgogogeiaa
