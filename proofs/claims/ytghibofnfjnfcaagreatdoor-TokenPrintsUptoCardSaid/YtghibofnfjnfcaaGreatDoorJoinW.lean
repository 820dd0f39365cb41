/-
  TokenJoin: its walk.
-/
import Derived.Test.YtghibofnfjnfcaaGreatDoorLex
import Derived.Test.YtghibofnfjnfcaaGreatDoorJoin
import Derived.Test.YtghibofnfjnfcaaGreatDoorToks
import Derived.Test.YtghibofnfjnfcaaGreatDoorTell
import Derived.Lib.SmallJoins
import Derived.Lib.ConvBytes
namespace Go.Proofs.YtghibofnfjnfcaaGreatDoor
set_option linter.unusedVariables false
open Go.RowKit

/-- 'append(out, xs...)' of a row of bytes -/
theorem applg {ops : Array Oper} {rest : List Oper} {o : Oper} {a : Act} {Q : Exit → Act → World → Prop} (hgd : o.guard = none) (s x : Operand)
    (ho : o.op = .call { callee := .builtin .append, args := #[s, x], argTypes := #[27, 27] })
    {w : World} {B : Nat} (hB : B ≤ w.heap.size) {v u : Value} {l m : List Nat} (hown : OwnB w B v l) (hr : RowB w u m)
    (hs : a.eval s = v) (hx : a.eval x = u) (hlen : l.length + m.length ≤ 140737488355328)
    (h : ∀ o' w2, OwnB w2 B o' (l ++ m) → w.grownBy w2 v.ownBlock → wpList Tryz.prog ops Q rest (a.put o.dst o') w2) :
    wpList Tryz.prog ops Q (o :: rest) a w := by
  obtain ⟨i0, hi, hz0, hz1, hz2⟩ := info_parts Tryz.info5
  obtain ⟨ad, len, cap, rfl, hl, hc, hm, hw, hn, hcell⟩ := hr
  cases ad with
  | none =>
    obtain ⟨rfl, rfl⟩ := hn rfl
    obtain rfl : m = [] := List.eq_nil_of_length_eq_zero hl
    refine wpList_plain hgd fun K hK => ?_
    have hrun := run_append_owned_none (P := Tryz.prog) w B 27 o.type 5 i0 1 Tryz.underlying27 hi v l.length (u8s l) hown
    unfold Oper.wp
    simp [execOp, ho, resolve, invoke, builtin, hs, hx, hrun, Result.andThen]
    exact hK _ _ (h _ _ (by simpa using hown) (World.grownBy.refl _ _))
  | some x' =>
    refine wpList_append_own_at _ hgd s x 27 ho B 5 i0 (.int .u8 0) 1 1 Tryz.underlying27 hi hz0 hz1 hz2 rfl (by decide) v l.length (u8s l) hs hown x' len cap (u8s m) hx (by simp [hl]) ?_ ?_ (by simp [maxLen]; omega) (by omega) hB ?_
    · intro j u hj
      have hjl : j < m.length := by have := (List.getElem?_eq_some_iff.1 hj).1; simpa using this
      rw [u8s_get m j hjl] at hj
      cases hj
      exact hcell x' rfl j hjl
    · intro u hu
      obtain ⟨_, _, rfl⟩ := List.mem_map.1 hu
      rfl
    · intro o' w2 ho' hgr _ hat
      refine h o' w2 ?_ hgr
      unfold OwnB
      rw [u8s_append, List.length_append, hl]
      exact ho'

/-- tokens that can be read -/
def RowT (w : World) (u : Value) (m : List Tk) : Prop :=
  ∃ ad cap, u = .slice ad m.length cap ∧ (ad = none → m.length = 0 ∧ cap = 0) ∧ ∀ x, ad = some x → ∀ j v, (tksV m)[j]? = some v → w.cell? (x.add j) = some v
theorem OwnT.row {w : World} {B : Nat} {v : Value} {l : List Tk} (h : OwnT w B v l) : RowT w v l := by
  have h0 := h
  rcases h.2 with ⟨rfl, hl⟩ | ⟨g, cap, cur, rfl, hb, hh, _⟩
  · exact ⟨none, 0, by rw [hl], fun _ => ⟨hl, rfl⟩, fun x hx => by cases hx⟩
  · exact ⟨_, cap, rfl, (fun e => nomatch e), fun x hx j v hj => (by
      obtain rfl := Option.some.inj hx
      exact World.ownsRow.cells (g := g) h0 rfl j v hj)⟩
/-- 'append(tokens, more...)' -/
theorem applT {ops : Array Oper} {rest : List Oper} {o : Oper} {a : Act} {Q : Exit → Act → World → Prop} (hw : Region.wanted o (yielded ops a.tmps) = true) (s x : Operand)
    (ho : o.op = .call { callee := .builtin .append, args := #[s, x], argTypes := #[22, 22] })
    {w : World} {B : Nat} (hB : B ≤ w.heap.size) {v u : Value} {l m : List Tk} (hown : OwnT w B v l) (hr : RowT w u m)
    (hs : a.eval s = v) (hx : a.eval x = u) (hlen : l.length + m.length ≤ 100000000)
    (h : ∀ o' w2, OwnT w2 B o' (l ++ m) → w.grownBy w2 v.ownBlock → wpList Tryz.prog ops Q rest (a.put o.dst o') w2) :
    wpList Tryz.prog ops Q (o :: rest) a w := by
  obtain ⟨i0, hi, hz0, hz1, hz2⟩ := info_parts Tryz.info26
  have e : ∃ v' w', (Builtin.append_ #[22, 22] o.type #[v, u]).run Tryz.prog w = .ok v' w' ∧ OwnT w' B v' (l ++ m) ∧ w.grownBy w' v.ownBlock := by
    obtain ⟨ad, cap, rfl, hn, hcell⟩ := hr
    cases ad with
    | none =>
      obtain ⟨h1, rfl⟩ := hn rfl
      obtain rfl : m = [] := List.eq_nil_of_length_eq_zero h1
      exact ⟨v, w, run_append_owned_none (P := Tryz.prog) w B 22 o.type 26 i0 2 Tryz.underlying22 hi v l.length (tksV l) hown, by simpa using hown, World.grownBy.refl _ _⟩
    | some x' =>
      obtain ⟨v', w', hr, h2, h3, _⟩ := run_append_own_at (P := Tryz.prog) w B 22 o.type 26 i0 _ 2 24 Tryz.underlying22 hi hz0 hz1 hz2 rfl (by decide) v l.length (tksV l) hown x' m.length cap (tksV m) (by simp) (hcell x' rfl) (fun q hq => by
        obtain ⟨t, _, ht⟩ := List.mem_flatMap.1 hq
        simp only [tkV, List.mem_cons, List.not_mem_nil, or_false] at ht
        rcases ht with rfl | rfl <;> rfl) (by simp [maxLen]; omega) (by omega) hB
      refine ⟨v', w', hr, ?_, h3⟩
      unfold OwnT
      rw [tksV_append, List.length_append]
      exact h2
  obtain ⟨v', w', hr2, h2, h3⟩ := e
  refine wpList_step fun K hK => ?_
  rw [if_pos hw]
  unfold Oper.wp execOp
  simp only [ho, resolve, invoke, builtin, Sem.run_bind, Sem.run_pure, Result.andThen_ok, List.map_toArray, List.map_cons, List.map_nil, hs, hx, hr2]
  exact hK _ _ (h _ _ h2 h3)
theorem rowT_one (w : World) (k : Nat) (s : List Nat) : RowT (w.alloc (.cells #[.int .i64 (k : Nat), .string (strN s)] 26)) (.slice (some ⟨w.heap.size, 0, none⟩) 1 1) [(k, s)] := by
  refine ⟨_, 1, rfl, (fun e => nomatch e), fun x hx j v hj => ?_⟩
  obtain rfl := Option.some.inj hx
  rw [Addr.add_lit, Nat.zero_add, cell_of_row _ _ j _ 26 (0, 0) (heap_alloc_new w _)]
  simpa [tksV, tkV] using hj

def B5 : Array Value := #[.int .u8 97, .int .u8 32, .int .u8 40, .int .u8 98, .int .u8 41]
theorem row5 (w : World) : RowB (w.alloc (.cells B5 5 (5, 6))) (.slice (some ⟨w.heap.size, 0, none⟩) 5 5) [97, 32, 40, 98, 41] := by
  refine ⟨_, _, _, rfl, rfl, by decide, by decide, by decide, by simp, fun x hx i hi => ?_⟩
  obtain rfl := Option.some.inj hx
  rw [Addr.add_lit, Nat.zero_add, cell_of_row _ _ i _ 5 (5, 6) (heap_alloc_new w _)]
  have hi5 : i < 5 := hi
  have : i = 0 ∨ i = 1 ∨ i = 2 ∨ i = 3 ∨ i = 4 := by omega
  rcases this with rfl | rfl | rfl | rfl | rfl <;> rfl
theorem lex5 : lexS [97, 32, 40, 98, 41] = (0, [(1, [97]), (6, []), (4, []), (1, [98]), (5, [])]) := by decide

set_option maxRecDepth 100000 in
theorem atom_a (w : World) : Calls Tryz.prog 11 #[.string ⟨#[97]⟩] w fun e w' => e = .returned (.bool true) ∧ w = w' := by
  have hin := fun w => inAtom_any 97 (by decide) w
  rw [show inAtomN 97 = true from rfl] at hin
  have HIN := Lib.hid hin
  clear hin
  go_enter Tryz.func11, Tryz.ntmps11
  go_wp2_with fail
  refine wp_loop_rounds 2 ?_
  rw [rounds_succ]
  go_wp2_with fail
  refine (HIN.out _).mono ?_
  rintro e w1 ⟨rfl, rfl⟩
  go_wp2_with fail
  rw [rounds_succ]
  go_wp2_with fail
  go_ret
  exact ⟨rfl, rfl⟩

set_option maxRecDepth 100000 in
set_option maxHeartbeats 1000000 in
theorem awake_any (w : World) (hv : RngV w) : Calls Tryz.prog 6 #[] w fun e w' => e = .returned (.bool true) ∧ Below w.heap.size w w' := by
  have HV := Lib.hid hv
  clear hv
  go_enter Tryz.func6, Tryz.ntmps6
  go_wp2_with fail
  have kc := Go.Joins.run_convert_bytes_const_at (P := Tryz.prog) w 27 5 B5 5 5 w.heap.size rfl Tryz.underlying27 Tryz.underlying5
  unfold B5 at kc
  rw [kc]
  clear kc
  have hb1 : Below w.heap.size w (w.alloc (.cells B5 5 (5, 6))) := (Below.refl _ _).alloc (Nat.le_refl _) _
  have hr1 := row5 w
  have hv1 : RngV (w.alloc (.cells B5 5 (5, 6))) := by obtain ⟨tp, q, h⟩ := HV.out; exact ⟨tp, q, (hb1.cell (p := ⟨5, 0, none⟩) (World.block_lt_of_cell? w _ h)).trans h⟩
  unfold B5 at hb1 hr1 hv1
  generalize w.alloc (.cells _ 5 (5, 6)) = w1 at *
  have HL := Lib.hid (lex_any _ _ w1 hr1 (by decide) hv1)
  have HB1 := Lib.hid hb1
  clear hb1 hr1 hv1
  go_wp2_with fail
  refine HL.out.mono ?_
  rintro e w2 ⟨o, he, ho, hb2⟩
  rw [lex5] at he ho
  subst he
  obtain ⟨oa, oc, eo⟩ := ho.shape
  subst eo
  obtain ⟨g, cap, hcs⟩ := ho.cells
  obtain ⟨e1, _, _, hcl⟩ := hcs (by decide)
  simp only [Value.slice.injEq] at e1
  obtain ⟨rfl, -, rfl⟩ := e1
  have c1 : w2.cell? ⟨g, 0, none⟩ = some (.int .i64 1) := (hcl 0 (by decide)).1
  have c2 : w2.cell? ⟨g, 1, none⟩ = some (.string ⟨#[97]⟩) := (hcl 0 (by decide)).2
  have HB2 := Lib.hid (HB1.out.trans (hb2.mono HB1.out.size))
  clear hcl hcs ho hb2
  go_wp2_with fail
  refine (atom_a w2).mono ?_
  rintro e w3 ⟨rfl, rfl⟩
  go_wp2_with fail
  go_ret
  exact ⟨rfl, HB2.out⟩

theorem ownB_ge {w : World} {B : Nat} {v : Value} {l : List Nat} (h : OwnB w B v l) : ∀ b, v.ownBlock = some b → B ≤ b := by
  intro b hb
  rcases h.2 with ⟨rfl, _⟩ | ⟨g, cap, cur, rfl, hg, _⟩
  · simp [Value.ownBlock] at hb
  · simp [Value.ownBlock] at hb; omega
theorem ownT_ge {w : World} {B : Nat} {v : Value} {l : List Tk} (h : OwnT w B v l) : ∀ b, v.ownBlock = some b → B ≤ b := by
  intro b hb
  rcases h.2 with ⟨rfl, _⟩ | ⟨g, cap, cur, rfl, hg, _⟩
  · simp [Value.ownBlock] at hb
  · simp [Value.ownBlock] at hb; omega
theorem run_out_len (l : List Nat) : ∀ s : LS, (runL s l).1.out.length ≤ s.out.length + 2 * l.length := by
  induction l with
  | nil => intro s; exact Nat.le_refl _
  | cons c l ih =>
    intro s
    have h1 : (stepL s c).1.out.length ≤ s.out.length + 2 := by
      unfold stepL
      cases s.m <;> simp only [atomS, quoS, escS, sizS, carS, feeS, litS, betS, tellS, pushT]
      all_goals
        repeat' split
        all_goals
          simp only [List.length_append, List.length_cons, List.length_nil]
          omega
    have h2 := ih (stepL s c).1
    rw [run_cons]
    split
    · simp only [List.length_cons]; omega
    · simp only [List.length_cons]; omega
theorem lexS_len (l : List Nat) : (lexS l).2.length ≤ 2 * l.length + 1 := by
  have h := run_out_len l ls0
  have h0 : ls0.out.length = 0 := rfl
  unfold lexS finL
  repeat' split
  all_goals
    simp only [List.length_append, List.length_cons, List.length_nil]
    omega

end Go.Proofs.YtghibofnfjnfcaaGreatDoor
