/-
  ShelfNil: for every input the law's function returns true, and each argument reads behind the call as it read before.
-/
import Derived.Test.YthmnbjdmbajhkaaNilLaw
import Derived.JoinedCond
import Derived.Deep.CondSized
import Derived.SizedLaws
import Derived.Lib.SmallJoins
namespace Go.Proofs.Ythmnbjdmbajhkaa
set_option linter.unusedVariables false
open Go.RowKit Go.Joins Go.ChangeShapes Go.WideShapes

set_option maxRecDepth 8000 in
set_option maxHeartbeats 2000000 in
theorem shelfNil_any (a b s u : Int) (c : Bool) (w : World) : Calls Try.prog 5 #[idV a b, .int .i64 s, .int .i64 u, .bool c] w fun e w' => e = .returned (.bool true) ∧ Below w.heap.size w w' := by
  unfold idV
  go_enter Try.func5, Try.ntmps5
  go_wp2_with fail
  have HI0 : Hid (At (w.alloc (.cells #[.int .u32 a, .int .u32 b] 31)) w.heap.size (.cells #[.int .u32 a, .int .u32 b] 31 (0, 0))) := Lib.hid (heap_alloc_new w _)
  have HB0 := Lib.hid ((Below.refl w.heap.size w).alloc (Nat.le_refl _) (.cells #[.int .u32 a, .int .u32 b] 31))
  have hn0 : w.heap.size < (w.alloc (.cells #[.int .u32 a, .int .u32 b] 31)).heap.size := by simp
  generalize w.alloc (.cells #[.int .u32 a, .int .u32 b] 31) = w0 at *
  refine (awake_any _).mono ?_
  rintro e w1 ⟨rfl, hb⟩
  have HI1 := Lib.hid (HI0.out.below hb hn0)
  have HB1 := Lib.hid (HB0.out.trans (hb.mono (Nat.le_of_lt hn0)))
  have hn1 : w.heap.size < w1.heap.size := HI1.out.lt
  have x0 := HI1.out.cell 0 (.int .u32 a) rfl
  have x1 := HI1.out.cell 1 (.int .u32 b) rfl
  clear hb HI0 HB0
  go_wp2_with fail
  refine (nput a b s u c _).mono ?_
  rintro e w2 ⟨rfl, hb⟩
  clear x0 x1
  have HI2 := Lib.hid (HI1.out.below hb hn1)
  have HB2 := Lib.hid (HB1.out.trans (hb.mono (Nat.le_of_lt hn1)))
  have hn2 : w.heap.size < w2.heap.size := HI2.out.lt
  have x0 := HI2.out.cell 0 (.int .u32 a) rfl
  have x1 := HI2.out.cell 1 (.int .u32 b) rfl
  clear hb HI1 HB1
  go_wp2_with fail
  refine (ntouch a b u _).mono ?_
  rintro e w3 ⟨rfl, hb⟩
  clear x0 x1
  have HI3 := Lib.hid (HI2.out.below hb hn2)
  have HB3 := Lib.hid (HB2.out.trans (hb.mono (Nat.le_of_lt hn2)))
  have hn3 : w.heap.size < w3.heap.size := HI3.out.lt
  have x0 := HI3.out.cell 0 (.int .u32 a) rfl
  have x1 := HI3.out.cell 1 (.int .u32 b) rfl
  clear hb HI2 HB2
  go_wp2_with fail
  refine (nclean a b _).mono ?_
  rintro e w4 ⟨rfl, hb⟩
  clear x0 x1
  have HI4 := Lib.hid (HI3.out.below hb hn3)
  have HB4 := Lib.hid (HB3.out.trans (hb.mono (Nat.le_of_lt hn3)))
  have hn4 : w.heap.size < w4.heap.size := HI4.out.lt
  have x0 := HI4.out.cell 0 (.int .u32 a) rfl
  have x1 := HI4.out.cell 1 (.int .u32 b) rfl
  clear hb HI3 HB3
  go_wp2_with fail
  refine (ndrop a b _).mono ?_
  rintro e w5 ⟨rfl, hb⟩
  clear x0 x1
  have HI5 := Lib.hid (HI4.out.below hb hn4)
  have HB5 := Lib.hid (HB4.out.trans (hb.mono (Nat.le_of_lt hn4)))
  have hn5 : w.heap.size < w5.heap.size := HI5.out.lt
  have x0 := HI5.out.cell 0 (.int .u32 a) rfl
  have x1 := HI5.out.cell 1 (.int .u32 b) rfl
  clear hb HI4 HB4
  go_wp2_with fail
  refine (nevict _).mono ?_
  rintro e w6 ⟨rfl, rfl⟩
  go_wp2_with fail
  refine (nsize _).mono ?_
  rintro e w6 ⟨rfl, rfl⟩
  go_wp2_with fail
  refine (nlen _).mono ?_
  rintro e w6 ⟨rfl, rfl⟩
  go_wp2_with fail
  go_ret
  exact ⟨rfl, HB5.out⟩

theorem open_id {H : Type} {enc : TypeId × Value → H} {w : World} {r : Reach} {b0 : Nat} {v : Value} {d : DataW H} {p : List MemPlace}
    (hv : Value.okWide Try.prog w r b0 31 v) (h : DataW.Trod enc Try.prog w 0 (fun _ => true) true 31 v d p) : ∃ a b : Int, v = idV a b := by
  obtain ⟨cs, rfl, hsz⟩ := okWide_struct Try.underlying31 hv
  obtain ⟨l⟩ := cs
  have hC : Try.prog.cellsOf 31 = 2 := by kernel_rfl
  match l, hsz.trans hC with
  | [c0, c1], _ =>
    obtain ⟨fuel, hf⟩ := h
    obtain ⟨xs, n, _, hx, _, hlen, hg⟩ := DataW.trod_struct Try.underlying31 hf
    have h29 : Try.prog.cellsOf 29 = 1 := by kernel_rfl
    match xs, hlen with
    | [y0, y1], _ =>
      have g0 : DataW.trod enc Try.prog w 0 (fun _ => true) true n 29 [c0] = some y0 := by simpa [Value.cells, h29] using hg 0 _ rfl
      have g1 : DataW.trod enc Try.prog w 0 (fun _ => true) true n 29 [c1] = some y1 := by simpa [Value.cells, h29] using hg 1 _ rfl
      obtain ⟨n0, e0, _, _⟩ := DataW.trod_int Try.underlying29 g0
      obtain ⟨n1, e1, _, _⟩ := DataW.trod_int Try.underlying29 g1
      simp only [List.cons.injEq, and_true] at e0 e1
      subst e0 e1
      exact ⟨n0, n1, rfl⟩
end Go.Proofs.Ythmnbjdmbajhkaa
namespace Go.Proofs.Ythmnbjdmbajhkaa.shelfNil
open Go.ChangeShapes Go.WideShapes Go.ChangeAt Go.RowKit
open Go.ChangeMaps (open_string shut_string)
set_option linter.unusedVariables false

theorem own : ownKnob Try.prog.godebug = none := by kernel_rfl
theorem laidOut : laidOutB Try.prog = true := by kernel_rfl

theorem contract (H : Type) (enc : TypeId × Value → H) (W : World) (base : Nat) (args : Array Value) (ds gs : List (DataW H)) (before : List MemPlace)
    (hval : ∀ (j : Nat) t v, Try.f5.params[j]? = some t → args[j]? = some v → Value.okWide Try.prog W .any base t v)
    (hW : DataW.Whole enc Try.prog Try.f5.params.toList Rows.shelfNilSpec.vars false W args.toList ds gs before)
    (hsz0 : (DataW.weightsEach Try.prog (Try.f5.params.toList ++ Rows.shelfNilSpec.plain.varTypes Try.prog) (ds ++ gs)).all (· ≤ reachBytes) = true) :
    Calls Try.prog 5 args W fun e W' => ∃ v, e = .returned v ∧ Rows.shelfNilSpec.post enc Try.prog Try.f5 false true false false W args v W' := by
  have hW' := hW
  obtain ⟨p, q, hA0, hV, rfl, hfz, hnd⟩ := hW
  have hA : DataW.TrodAll enc Try.prog W 0 (fun _ => true) true Try.f5.params.toList args.toList ds p := hA0
  clear hsz0
  rw [Try.params5] at hA hval
  obtain ⟨v0, vs0, d0, ds0, p0, q0, hargs, rfl, rfl, h0, r0⟩ := trodAll_cons hA
  obtain ⟨v1, vs1, d1, ds1, p1, q1, rfl, rfl, rfl, h1, r1⟩ := trodAll_cons r0
  obtain ⟨v2, vs2, d2, ds2, p2, q2, rfl, rfl, rfl, h2, r2⟩ := trodAll_cons r1
  obtain ⟨v3, vs3, d3, ds3, p3, q3, rfl, rfl, rfl, h3, r3⟩ := trodAll_cons r2
  obtain ⟨rfl, rfl, rfl⟩ := trodAll_nil r3
  obtain rfl : args = #[v0, v1, v2, v3] := by cases args; simp_all
  obtain ⟨rfl, rfl⟩ := trodVars_none hV
  obtain ⟨a, b, rfl⟩ := open_id (hval 0 31 v0 rfl rfl) h0
  have k0 := h0
  have lt0 : ∀ x ∈ p0, x.block < W.heap.size := by obtain ⟨m, hm⟩ := k0; exact DataW.trod_lt m _ _ _ hm
  obtain ⟨x1, rfl, rfl, rfl, wf1⟩ := open_int Try.underlying3 (hval 1 3 v1 rfl rfl) h1
  obtain ⟨x2, rfl, rfl, rfl, wf2⟩ := open_int Try.underlying3 (hval 2 3 v2 rfl rfl) h2
  obtain ⟨x3, rfl, rfl, rfl⟩ := open_bool Try.underlying4 (hval 3 4 v3 rfl rfl) h3
  clear hA0
  refine (shelfNil_any a b x1 x2 x3 W).mono fun e W' ⟨he, bel⟩ => ?_
  subst he
  exact ⟨_, rfl, _, _, _, [], _, [], hW', trodAll_mk1 (shut_bool Try.underlying4 _), (trodAll_cons_mk (Below.trod laidOut (by kernel_rfl) (of_decide_eq_true (by kernel_rfl)) k0 bel lt0) (trodAll_cons_mk (shut_int Try.underlying3 wf1) (trodAll_cons_mk (shut_int Try.underlying3 wf2) (trodAll_cons_mk (shut_bool Try.underlying4 x3) trodAll_mk0)))), rfl, bel.frame _, fun h => by cases h⟩

set_option maxRecDepth 100000 in
theorem lifted (os : Os) (started : os.Started) (H : Type) (enc : TypeId × Value → H) :
    ReturnsInHanded {} Try.checked os 5 .any (Rows.shelfNilSpec.pre6 enc Try.prog Try.f5 Rows.shelfNilRow.domain false) (Rows.shelfNilSpec.post enc Try.prog Try.f5 false true false false) := by
  refine returnsInHanded_of_change_sized (C := Try.checked) own started (by kernel_rfl) Try.func5
    (ChangeSpec.witness6 (enc := enc) (C := Try.checked) false ⟨#[], #[.agg #[.int .u32 0, .int .u32 0], .int .i64 0, .int .i64 0, .bool false], []⟩ 8 (by kernel_rfl) (by kernel_rfl) (by kernel_rfl) (by kernel_rfl)) ?_
  intro W base args ds gs before hval hW _ hsz _
  exact contract H enc W base args ds gs before hval hW hsz

theorem proved : Rows.ShelfNilSaid :=
  OpenClaim.holds_of_wide 5 Try.f5 rfl rfl rfl rfl rfl rfl rfl ⟨rfl, rfl, rfl, rfl, rfl⟩ rfl rfl rfl rfl rfl (by kernel_rfl) Try.func5 (by kernel_rfl)
    (of_decide_eq_true (by kernel_rfl)) (by unfold Func.isWrapper; first | (rw [if_pos (by decide +kernel)]; kernel_rfl) | (rw [if_neg (by decide +kernel)]; exact ⟨rfl, rfl⟩))
    (fun os started H enc _ => lifted os started H enc)
#print axioms proved
end Go.Proofs.Ythmnbjdmbajhkaa.shelfNil
