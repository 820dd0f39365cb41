/-
  TokenJoin: its walk.
-/
import Derived.Test.YtghibofnfjnfcaaDoorLex
import Derived.Test.YtghibofnfjnfcaaDoorJoin
import Derived.Test.YtghibofnfjnfcaaDoorToks
import Derived.Test.YtghibofnfjnfcaaDoorTell
import Derived.Lib.SmallJoins
import Derived.Lib.ConvBytes
namespace Go.Proofs.YtghibofnfjnfcaaDoor
set_option linter.unusedVariables false
open Go.RowKit

/-- 'append(out, xs...)' of a row of bytes -/
theorem applg {ops : Array Oper} {rest : List Oper} {o : Oper} {a : Act} {Q : Exit → Act → World → Prop} (hgd : o.guard = none) (s x : Operand)
    (ho : o.op = .call { callee := .builtin .append, args := #[s, x], argTypes := #[22, 22] })
    {w : World} {B : Nat} (hB : B ≤ w.heap.size) {v u : Value} {l m : List Nat} (hown : OwnB w B v l) (hr : RowB w u m)
    (hs : a.eval s = v) (hx : a.eval x = u) (hlen : l.length + m.length ≤ 140737488355328)
    (h : ∀ o' w2, OwnB w2 B o' (l ++ m) → w.grownBy w2 v.ownBlock → wpList Tryd.prog ops Q rest (a.put o.dst o') w2) :
    wpList Tryd.prog ops Q (o :: rest) a w := by
  obtain ⟨i0, hi, hz0, hz1, hz2⟩ := info_parts Tryd.info5
  obtain ⟨ad, len, cap, rfl, hl, hc, hm, hw, hn, hcell⟩ := hr
  cases ad with
  | none =>
    obtain ⟨rfl, rfl⟩ := hn rfl
    obtain rfl : m = [] := List.eq_nil_of_length_eq_zero hl
    refine wpList_plain hgd fun K hK => ?_
    have hrun := run_append_owned_none (P := Tryd.prog) w B 22 o.type 5 i0 1 Tryd.underlying22 hi v l.length (u8s l) hown
    unfold Oper.wp
    simp [execOp, ho, resolve, invoke, builtin, hs, hx, hrun, Result.andThen]
    exact hK _ _ (h _ _ (by simpa using hown) (World.grownBy.refl _ _))
  | some x' =>
    refine wpList_append_own_at _ hgd s x 22 ho B 5 i0 (.int .u8 0) 1 1 Tryd.underlying22 hi hz0 hz1 hz2 rfl (by decide) v l.length (u8s l) hs hown x' len cap (u8s m) hx (by simp [hl]) ?_ ?_ (by simp [maxLen]; omega) (by omega) hB ?_
    · intro j u hj
      have hjl : j < m.length := by have := (List.getElem?_eq_some_iff.1 hj).1; simpa using this
      rw [u8s_get m j hjl] at hj
      cases hj
      exact hcell x' rfl j hjl
    · intro u hu
      obtain ⟨_, _, rfl⟩ := List.mem_map.1 hu
      rfl
    · intro o' w2 ho' hgr _ hat
      refine h o' w2 ?_ hgr
      unfold OwnB
      rw [u8s_append, List.length_append, hl]
      exact ho'

/-- tokens that can be read -/
def RowT (w : World) (u : Value) (m : List Tk) : Prop :=
  ∃ ad cap, u = .slice ad m.length cap ∧ (ad = none → m.length = 0 ∧ cap = 0) ∧ ∀ x, ad = some x → ∀ j v, (tksV m)[j]? = some v → w.cell? (x.add j) = some v
theorem OwnT.row {w : World} {B : Nat} {v : Value} {l : List Tk} (h : OwnT w B v l) : RowT w v l := by
  have h0 := h
  rcases h.2 with ⟨rfl, hl⟩ | ⟨g, cap, cur, rfl, hb, hh, _⟩
  · exact ⟨none, 0, by rw [hl], fun _ => ⟨hl, rfl⟩, fun x hx => by cases hx⟩
  · exact ⟨_, cap, rfl, (fun e => nomatch e), fun x hx j v hj => (by
      obtain rfl := Option.some.inj hx
      exact World.ownsRow.cells (g := g) h0 rfl j v hj)⟩
/-- 'append(tokens, more...)' -/
theorem applT {ops : Array Oper} {rest : List Oper} {o : Oper} {a : Act} {Q : Exit → Act → World → Prop} (hw : Region.wanted o (yielded ops a.tmps) = true) (s x : Operand)
    (ho : o.op = .call { callee := .builtin .append, args := #[s, x], argTypes := #[25, 25] })
    {w : World} {B : Nat} (hB : B ≤ w.heap.size) {v u : Value} {l m : List Tk} (hown : OwnT w B v l) (hr : RowT w u m)
    (hs : a.eval s = v) (hx : a.eval x = u) (hlen : l.length + m.length ≤ 1000000)
    (h : ∀ o' w2, OwnT w2 B o' (l ++ m) → w.grownBy w2 v.ownBlock → wpList Tryd.prog ops Q rest (a.put o.dst o') w2) :
    wpList Tryd.prog ops Q (o :: rest) a w := by
  obtain ⟨i0, hi, hz0, hz1, hz2⟩ := info_parts Tryd.info31
  have e : ∃ v' w', (Builtin.append_ #[25, 25] o.type #[v, u]).run Tryd.prog w = .ok v' w' ∧ OwnT w' B v' (l ++ m) ∧ w.grownBy w' v.ownBlock := by
    obtain ⟨ad, cap, rfl, hn, hcell⟩ := hr
    cases ad with
    | none =>
      obtain ⟨h1, rfl⟩ := hn rfl
      obtain rfl : m = [] := List.eq_nil_of_length_eq_zero h1
      exact ⟨v, w, run_append_owned_none (P := Tryd.prog) w B 25 o.type 31 i0 2 Tryd.underlying25 hi v l.length (tksV l) hown, by simpa using hown, World.grownBy.refl _ _⟩
    | some x' =>
      obtain ⟨v', w', hr, h2, h3, _⟩ := run_append_own_at (P := Tryd.prog) w B 25 o.type 31 i0 _ 2 24 Tryd.underlying25 hi hz0 hz1 hz2 rfl (by decide) v l.length (tksV l) hown x' m.length cap (tksV m) (by simp) (hcell x' rfl) (fun q hq => by
        obtain ⟨t, _, ht⟩ := List.mem_flatMap.1 hq
        simp only [tkV, List.mem_cons, List.not_mem_nil, or_false] at ht
        rcases ht with rfl | rfl <;> rfl) (by simp [maxLen]; omega) (by omega) hB
      refine ⟨v', w', hr, ?_, h3⟩
      unfold OwnT
      rw [tksV_append, List.length_append]
      exact h2
  obtain ⟨v', w', hr2, h2, h3⟩ := e
  refine wpList_step fun K hK => ?_
  rw [if_pos hw]
  unfold Oper.wp execOp
  simp only [ho, resolve, invoke, builtin, Sem.run_bind, Sem.run_pure, Result.andThen_ok, List.map_toArray, List.map_cons, List.map_nil, hs, hx, hr2]
  exact hK _ _ (h _ _ h2 h3)
theorem rowT_one (w : World) (k : Nat) (s : List Nat) : RowT (w.alloc (.cells #[.int .i64 (k : Nat), .string (strN s)] 31)) (.slice (some ⟨w.heap.size, 0, none⟩) 1 1) [(k, s)] := by
  refine ⟨_, 1, rfl, (fun e => nomatch e), fun x hx j v hj => ?_⟩
  obtain rfl := Option.some.inj hx
  rw [Addr.add_lit, Nat.zero_add, cell_of_row _ _ j _ 31 (0, 0) (heap_alloc_new w _)]
  simpa [tksV, tkV] using hj

set_option maxHeartbeats 400000 in
/-- CopyBytes -/
theorem copy_any (v : Value) (l : List Nat) (w : World) (hr : RowB w v l) (hl : l.length ≤ 1000000) : Calls Tryd.prog 11 #[v] w fun e w' => ∃ o, e = .returned o ∧ OwnB w' w.heap.size o l ∧ Below w.heap.size w w' := by
  go_enter Tryd.func11, Tryd.ntmps11
  go_wp2_with (at_builtin; go_loud (refine applg rfl (.const (.slice none 0 0)) (.tmp 3) rfl (Nat.le_refl _) (show OwnB w w.heap.size (.slice none 0 0) [] from World.ownsRow_nil w w.heap.size 5 1) hr rfl rfl (by simp; omega) ?_); intro o w2 ho hg)
  go_ret
  exact ⟨o, rfl, ho, (Below.refl _ _).grown hg (Nat.le_refl _) (by intro k hk; simp [Value.ownBlock] at hk)⟩

def B5 : Array Value := #[.int .u8 97, .int .u8 32, .int .u8 40, .int .u8 98, .int .u8 41]
theorem row5 (w : World) : RowB (w.alloc (.cells B5 5 (5, 6))) (.slice (some ⟨w.heap.size, 0, none⟩) 5 5) [97, 32, 40, 98, 41] := by
  refine ⟨_, _, _, rfl, rfl, by decide, by decide, by decide, by simp, fun x hx i hi => ?_⟩
  obtain rfl := Option.some.inj hx
  rw [Addr.add_lit, Nat.zero_add, cell_of_row _ _ i _ 5 (5, 6) (heap_alloc_new w _)]
  have hi5 : i < 5 := hi
  have : i = 0 ∨ i = 1 ∨ i = 2 ∨ i = 3 ∨ i = 4 := by omega
  rcases this with rfl | rfl | rfl | rfl | rfl <;> rfl
theorem lex5 : lexS [97, 32, 40, 98, 41] = (0, [(1, [97]), (6, []), (4, []), (1, [98]), (5, [])]) := by decide

set_option maxRecDepth 100000 in
theorem atom_a (w : World) : Calls Tryd.prog 12 #[.string ⟨#[97]⟩] w fun e w' => e = .returned (.bool true) ∧ w = w' := by
  have hin := fun w => inAtom_any 97 (by decide) w
  rw [show inAtomN 97 = true from rfl] at hin
  have HIN := Lib.hid hin
  clear hin
  go_enter Tryd.func12, Tryd.ntmps12
  go_wp2_with fail
  refine wp_loop_rounds 2 ?_
  rw [rounds_succ]
  go_wp2_with fail
  refine (HIN.out _).mono ?_
  rintro e w1 ⟨rfl, rfl⟩
  go_wp2_with fail
  rw [rounds_succ]
  go_wp2_with fail
  go_ret
  exact ⟨rfl, rfl⟩

set_option maxRecDepth 100000 in
set_option maxHeartbeats 1000000 in
theorem awake_any (w : World) (hv : RngV w) : Calls Tryd.prog 5 #[] w fun e w' => e = .returned (.bool true) ∧ Below w.heap.size w w' := by
  have HV := Lib.hid hv
  clear hv
  go_enter Tryd.func5, Tryd.ntmps5
  go_wp2_with fail
  have kc := Go.Joins.run_convert_bytes_const_at (P := Tryd.prog) w 22 5 B5 5 5 w.heap.size rfl Tryd.underlying22 Tryd.underlying5
  unfold B5 at kc
  rw [kc]
  clear kc
  have hb1 : Below w.heap.size w (w.alloc (.cells B5 5 (5, 6))) := (Below.refl _ _).alloc (Nat.le_refl _) _
  have hr1 := row5 w
  have hv1 : RngV (w.alloc (.cells B5 5 (5, 6))) := by obtain ⟨tp, q, h⟩ := HV.out; exact ⟨tp, q, (hb1.cell (p := ⟨1, 0, none⟩) (World.block_lt_of_cell? w _ h)).trans h⟩
  unfold B5 at hb1 hr1 hv1
  generalize w.alloc (.cells _ 5 (5, 6)) = w1 at *
  have HL := Lib.hid (lex_any _ _ w1 hr1 (by decide) hv1)
  have HB1 := Lib.hid hb1
  clear hb1 hr1 hv1
  go_wp2_with fail
  refine HL.out.mono ?_
  rintro e w2 ⟨o, he, ho, hb2⟩
  rw [lex5] at he ho
  subst he
  obtain ⟨oa, oc, eo⟩ := ho.shape
  subst eo
  obtain ⟨g, cap, hcs⟩ := ho.cells
  obtain ⟨e1, _, _, hcl⟩ := hcs (by decide)
  simp only [Value.slice.injEq] at e1
  obtain ⟨rfl, -, rfl⟩ := e1
  have c1 : w2.cell? ⟨g, 0, none⟩ = some (.int .i64 1) := (hcl 0 (by decide)).1
  have c2 : w2.cell? ⟨g, 1, none⟩ = some (.string ⟨#[97]⟩) := (hcl 0 (by decide)).2
  have HB2 := Lib.hid (HB1.out.trans (hb2.mono HB1.out.size))
  clear hcl hcs ho hb2
  go_wp2_with fail
  refine (atom_a w2).mono ?_
  rintro e w3 ⟨rfl, rfl⟩
  go_wp2_with fail
  go_ret
  exact ⟨rfl, HB2.out⟩

theorem ownB_ge {w : World} {B : Nat} {v : Value} {l : List Nat} (h : OwnB w B v l) : ∀ b, v.ownBlock = some b → B ≤ b := by
  intro b hb
  rcases h.2 with ⟨rfl, _⟩ | ⟨g, cap, cur, rfl, hg, _⟩
  · simp [Value.ownBlock] at hb
  · simp [Value.ownBlock] at hb; omega
theorem ownT_ge {w : World} {B : Nat} {v : Value} {l : List Tk} (h : OwnT w B v l) : ∀ b, v.ownBlock = some b → B ≤ b := by
  intro b hb
  rcases h.2 with ⟨rfl, _⟩ | ⟨g, cap, cur, rfl, hg, _⟩
  · simp [Value.ownBlock] at hb
  · simp [Value.ownBlock] at hb; omega
theorem run_out_len (l : List Nat) : ∀ s : LS, (runL s l).1.out.length ≤ s.out.length + 2 * l.length := by
  induction l with
  | nil => intro s; exact Nat.le_refl _
  | cons c l ih =>
    intro s
    have h1 : (stepL s c).1.out.length ≤ s.out.length + 2 := by
      unfold stepL
      cases s.m <;> simp only [atomS, quoS, escS, sizS, carS, feeS, litS, betS, tellS, pushT]
      all_goals
        repeat' split
        all_goals
          simp only [List.length_append, List.length_cons, List.length_nil]
          omega
    have h2 := ih (stepL s c).1
    rw [run_cons]
    split
    · simp only [List.length_cons]; omega
    · simp only [List.length_cons]; omega
theorem lexS_len (l : List Nat) : (lexS l).2.length ≤ 2 * l.length + 1 := by
  have h := run_out_len l ls0
  have h0 : ls0.out.length = 0 := rfl
  unfold lexS finL
  repeat' split
  all_goals
    simp only [List.length_append, List.length_cons, List.length_nil]
    omega

set_option maxRecDepth 100000 in
set_option maxHeartbeats 8000000 in
theorem join_any (va : Value) (a : List Nat) (vb : Value) (b : List Nat) (w : World) (ha : RowB w va a) (hb : RowB w vb b) (hla : a.length ≤ 140737488351232) (hlb : b.length ≤ 140737488351232) (hv : RngV w) :
    Calls Tryd.prog 4 #[va, vb] w fun e w' => e = .returned (.bool true) ∧ Below w.heap.size w w' := by
  obtain ⟨aa, ca, e1⟩ : ∃ x c, va = .slice x a.length c := by obtain ⟨x, len, c, e, h, _⟩ := ha; exact ⟨x, c, by rw [e, h]⟩
  obtain ⟨ab, cb, e2⟩ : ∃ x c, vb = .slice x b.length c := by obtain ⟨x, len, c, e, h, _⟩ := hb; exact ⟨x, c, by rw [e, h]⟩
  subst e1 e2
  have HA := Lib.hid ha
  have HB := Lib.hid hb
  have HV := Lib.hid hv
  have hkeep : ∀ w', Below w.heap.size w w' → RngV w' := fun w' hb => by obtain ⟨tp, q, h⟩ := HV.out; exact ⟨tp, q, (hb.cell (p := ⟨1, 0, none⟩) (World.block_lt_of_cell? w _ h)).trans h⟩
  have HKV := Lib.hid hkeep
  have hws : IntKind.i64.wrap ((a.length : Int) + (b.length : Int)) = (a.length : Int) + (b.length : Int) := IntWalk.i64_in _ (by omega)
  clear ha hb hv hkeep
  by_cases hbig : 32768 < a.length + b.length
  · have g1 : (32768 : Int) < (a.length : Int) + (b.length : Int) := by omega
    go_enter Tryd.func4, Tryd.ntmps4
    go_wp2_with fail
    refine (awake_any w HV.out).mono ?_
    rintro e w2 ⟨rfl, hb2⟩
    go_wp2_with fail
    go_ret
    exact ⟨rfl, hb2⟩
  · have g1 : ¬ ((32768 : Int) < (a.length : Int) + (b.length : Int)) := by omega
    have hlen : a.length + b.length ≤ 32768 := by omega
    clear hbig
    go_enter Tryd.func4, Tryd.ntmps4
    go_wp2_with fail
    refine (lex_any _ a w HA.out (by omega) HV.out).mono ?_
    rintro e w1 ⟨x, rfl, hx, hb1⟩
    have HX := Lib.hid hx
    have HB1 := Lib.hid hb1
    clear hx hb1
    go_wp2_with fail
    refine (lex_any _ b w1 (HB.out.below HB1.out) (by omega) (HKV.out _ HB1.out)).mono ?_
    rintro e w2 ⟨y, rfl, hy, hb2⟩
    have HY := Lib.hid hy
    have HB2 := Lib.hid (HB1.out.trans (hb2.mono HB1.out.size))
    have HX2 := Lib.hid (HX.out.same (w' := w2) fun g hg => hb2.block g (ownT_type HX.out g hg).1)
    clear hy hb2 HX
    go_wp2_with fail
    refine (awake_any w2 (HKV.out _ HB2.out)).mono ?_
    rintro e w3 ⟨rfl, hb3⟩
    have HB3 := Lib.hid (HB2.out.trans (hb3.mono HB2.out.size))
    have HX3 := Lib.hid (HX2.out.same (w' := w3) fun g hg => hb3.block g (ownT_type HX2.out g hg).1)
    have HY3 := Lib.hid (HY.out.same (w' := w3) fun g hg => hb3.block g (ownT_type HY.out g hg).1)
    clear hb3 HX2 HY HB2 HB1
    by_cases hea : (lexS a).1 = 0
    · by_cases heb : (lexS b).1 = 0
      · have ex : lexS a = (0, (lexS a).2) := Prod.ext hea rfl
        have ey : lexS b = (0, (lexS b).2) := Prod.ext heb rfl
        have hj := join_law HA.out.lt HB.out.lt ex ey
        have HJ := Lib.hid hj
        have HLA := Lib.hid (lexS_len a)
        have HLB := Lib.hid (lexS_len b)
        rw [hea, heb]
        clear hea heb ex ey hj
        generalize (lexS a).2 = X at *
        generalize (lexS b).2 = Y at *
        go_wp2_with fail
        refine (copy_any _ a w3 (HA.out.below HB3.out) (by omega)).mono ?_
        rintro e w4 ⟨o, rfl, ho, hb4⟩
        have HB4 := Lib.hid hb4
        have HO4 := Lib.hid ho
        have hs4 := hb4.size
        clear ho hb4
        go_wp2_with (first
          | (at_builtin; go_loud (refine app1g rfl (.tmp 41) (.tmp 42) rfl HO4.out hs4 rfl rfl (by omega) (Lib.hid rfl) ?_); intro o5 w5 ho5 hg5 hm5; have HB5 : Hid (Below w3.heap.size w3 w5) := Lib.hid (((HB4.out.alloc hs4 _)).grown hg5 (by have := HB4.out.size; simp; omega) (fun k hk => ownB_ge HO4.out k hk)); have HO5 := Lib.hid ho5; have hs5 := HB5.out.size; clear ho5 hg5 hm5)
          | (at_builtin; go_loud (refine applg rfl (.tmp 43) (.tmp 44) rfl hs5 HO5.out (HB.out.below (HB3.out.trans (HB5.out.mono HB3.out.size))) rfl rfl (by simp; omega) ?_); intro o6 w6 ho6 hg6; have HB6 : Hid (Below w3.heap.size w3 w6) := Lib.hid (HB5.out.grown hg6 hs5 (fun k hk => ownB_ge HO5.out k hk)); have HO6 := Lib.hid ho6; clear ho6 hg6))
        have HW6 := Lib.hid (HB3.out.trans (HB6.out.mono HB3.out.size))
        have hlt6 : ∀ n ∈ a ++ [32] ++ b, n < 256 := by
          intro n hn
          rcases List.mem_append.1 hn with h | h
          · rcases List.mem_append.1 h with h | h
            · exact HA.out.lt n h
            · simp at h; omega
          · exact HB.out.lt n h
        refine (lex_any _ (a ++ [32] ++ b) w6 (HO6.out.row hlt6) (by simp; omega) (HKV.out _ HW6.out)).mono ?_
        rintro e w7 ⟨z, he, hz, hb7⟩
        rw [HJ.out] at he hz
        subst he
        have HZ7 := Lib.hid hz
        have HW7 := Lib.hid (HW6.out.trans (hb7.mono HW6.out.size))
        have HB7 := Lib.hid (HB6.out.trans (hb7.mono HB6.out.size))
        have HX7 := Lib.hid (HX3.out.same (w' := w7) fun g hg => HB7.out.block g (ownT_type HX3.out g hg).1)
        have HY7 := Lib.hid (HY3.out.same (w' := w7) fun g hg => HB7.out.block g (ownT_type HY3.out g hg).1)
        have hlx := HLA.out
        have hly := HLB.out
        clear hz hb7 hlt6 HJ
        go_wp2_with (first
          | (at_builtin; go_loud (refine applT (by rfl) (.const (.slice none 0 0)) (.tmp 53) rfl (Nat.le_refl w7.heap.size) (ownT_nil w7 _) HX7.out.row rfl rfl (by simp; omega) ?_); intro o8 w8 ho8 hg8; have HB8 : Hid (Below w7.heap.size w7 w8) := Lib.hid ((Below.refl _ _).grown hg8 (Nat.le_refl _) (by intro k hk; simp [Value.ownBlock] at hk)); have HO8 := Lib.hid ho8; have hs8 := HB8.out.size; clear ho8 hg8)
          | (at_builtin; go_loud (refine applT (by rfl) (.tmp 54) (.tmp 56) rfl (B := w7.heap.size) (by simp; omega) (World.ownsRow.alloc HO8.out _) (rowT_one w8 6 []) rfl rfl (by simp; omega) ?_); intro o9 w9 ho9 hg9; have HB9 : Hid (Below w7.heap.size w7 w9) := Lib.hid ((HB8.out.alloc hs8 _).grown hg9 (by simp; omega) (fun k hk => ownT_ge HO8.out k hk)); have HO9 := Lib.hid ho9; have hs9 := HB9.out.size; clear ho9 hg9)
          | (at_builtin; go_loud (refine applT (by rfl) (.tmp 57) (.tmp 58) rfl (B := w7.heap.size) hs9 HO9.out (OwnT.row (HY7.out.same (w' := w9) fun g hg => HB9.out.block g (ownT_type HY7.out g hg).1)) rfl rfl (by simp; omega) ?_); intro o10 w10 ho10 hg10; have HB10 : Hid (Below w7.heap.size w7 w10) := Lib.hid (HB9.out.grown hg10 hs9 (fun k hk => ownT_ge HO9.out k hk)); have HO10 := Lib.hid ho10; clear ho10 hg10))
        refine (plainT_yes (HZ7.out.same (w' := w10) fun g hg => HB10.out.block g (ownT_type HZ7.out g hg).1) HO10.out (by simp; omega)).mono ?_
        rintro e w11 ⟨rfl, hb11⟩
        have HW11 := Lib.hid ((HW7.out.trans (HB10.out.mono HW7.out.size)).trans (hb11.mono (HW7.out.trans (HB10.out.mono HW7.out.size)).size))
        clear hb11
        go_wp2_with fail
        go_ret
        exact ⟨rfl, HW11.out⟩
      · have g2 : ¬ (((lexS b).1 : Nat) : Int) = 0 := by omega
        have g2b : ((((lexS b).1 : Nat) : Int) != 0) = true := by simpa using heb
        rw [hea]
        clear heb hea
        generalize ((lexS b).1 : Int) = E at *
        go_wp2_with fail
        refine (awake_any w3 (HKV.out _ HB3.out)).mono ?_
        rintro e w4 ⟨rfl, hb4⟩
        go_wp2_with fail
        go_ret
        exact ⟨rfl, HB3.out.trans (hb4.mono HB3.out.size)⟩
    · have g2 : ¬ (((lexS a).1 : Nat) : Int) = 0 := by omega
      have g2b : ((((lexS a).1 : Nat) : Int) != 0) = true := by simpa using hea
      clear hea
      generalize ((lexS a).1 : Int) = E at *
      go_wp2_with fail
      refine (awake_any w3 (HKV.out _ HB3.out)).mono ?_
      rintro e w4 ⟨rfl, hb4⟩
      go_wp2_with fail
      go_ret
      exact ⟨rfl, HB3.out.trans (hb4.mono HB3.out.size)⟩

end Go.Proofs.YtghibofnfjnfcaaDoor
