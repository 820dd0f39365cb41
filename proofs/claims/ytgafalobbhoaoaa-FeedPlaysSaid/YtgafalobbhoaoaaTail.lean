/-
  'append' onto a tail of a row, and Put behind asks.
-/
import Derived.Test.YtgafalobbhoaoaaRFeed
import Derived.ArgAppend
namespace Go.Proofs.Ytgafalobbhoaoaa
set_option linter.unusedVariables false
open Go.RowKit

theorem setCells_same (g : Nat) (t : TypeId) : ∀ (vs : List Value) (o : Nat) (w : World) (cur : Array Value), w.heap[g]? = some (.cells cur t (0, 0)) → o + vs.length ≤ cur.size →
    ∃ cur', (w.setCells g o vs).heap[g]? = some (.cells cur' t (0, 0)) ∧ cur'.size = cur.size ∧ cur'.toList = cur.toList.take o ++ vs ++ cur.toList.drop (o + vs.length)
  | [], o, w, cur, h, _ => ⟨cur, h, rfl, by simp⟩
  | v :: r, o, w, cur, h, hl => by
    simp only [List.length_cons] at hl
    obtain ⟨cur', h1, h2, h3⟩ := setCells_same g t r (o + 1) (w.setCell ⟨g, o, none⟩ v) _ (heap_setCell_same w g o _ _ _ h) (by rw [Array.size_setIfInBounds]; omega)
    refine ⟨cur', h1, by rw [h2]; simp, ?_⟩
    rw [h3]
    have e1 : (cur.setIfInBounds o v).toList.take (o + 1) = cur.toList.take o ++ [v] := by
      have hlt : o < cur.toList.length := by rw [Array.length_toList]; omega
      have hto : (cur.toList.take o).length = o := by rw [List.length_take]; omega
      rw [Array.toList_setIfInBounds, List.take_set, List.take_succ_eq_append_getElem hlt, List.set_append_right _ _ (by omega), hto, Nat.sub_self, List.set_cons_zero]
    have e2 : (cur.setIfInBounds o v).toList.drop (o + 1 + r.length) = cur.toList.drop (o + (v :: r).length) := by
      rw [Array.toList_setIfInBounds, List.drop_set_of_lt (by omega)]
      congr 1
      simp only [List.length_cons]
      omega
    rw [e1, e2]
    simp
theorem setCells_other (g b : Nat) (hb : b ≠ g) : ∀ (vs : List Value) (o : Nat) (w : World), (w.setCells g o vs).heap[b]? = w.heap[b]?
  | [], _, _ => rfl
  | v :: r, o, w => by rw [World.setCells, setCells_other g b hb r (o + 1)]; exact heap_setCell_other _ _ _ _ hb
theorem setCells_plain (g : Nat) : ∀ (vs : List Value) (o : Nat) (w : World), (w.setCells g o vs).os = w.os ∧ (w.setCells g o vs).tape = w.tape ∧ (w.setCells g o vs).output = w.output ∧ (w.setCells g o vs).heap.size = w.heap.size
  | [], _, _ => ⟨rfl, rfl, rfl, rfl⟩
  | v :: r, o, w => by
    obtain ⟨h1, h2, h3, h4⟩ := setCells_plain g r (o + 1) (w.setCell ⟨g, o, none⟩ v)
    exact ⟨h1, h2, h3, h4.trans (by simp)⟩

theorem run_append_rest {w : World} {v u : Value} {R l : List Nat} (ty : TypeId) (hr : RestB w v R) (hu : RowB w u l) (hlen : R.length + l.length ≤ 140737488355328) :
    ∃ v' w', (Builtin.append_ #[27, 27] ty #[v, u]).run Try.prog w = .ok v' w' ∧ RestB w' v' (R ++ l) ∧ w.grownBy w' v.ownBlock ∧ Moved v v' w := by
  obtain ⟨i0, hi, hz0, hz1, hz2⟩ := info_parts Try.info5
  have hb : ∀ n ∈ R ++ l, n < 256 := fun n hn => (List.mem_append.1 hn).elim (hr.1 n) (hu.lt n)
  obtain ⟨ad, len, cap0, rfl, hl, hc, hm, hw, hn, hcell⟩ := hu
  cases ad with
  | none =>
    obtain ⟨rfl, rfl⟩ := hn rfl
    obtain rfl : l = [] := List.eq_nil_of_length_eq_zero hl
    refine ⟨v, w, ?_, by rw [List.append_nil]; exact hr, World.grownBy.refl _ _, Moved.refl _ _⟩
    rcases hr.2 with ⟨rfl, _⟩ | ⟨g, off, cap, cur, rfl, hh, h1, h2, h3, h4⟩
    · simp [Builtin.append_, run_underlying Try.underlying27, sizeOf, typeInfo, hi, Builtin.lenOf, Builtin.firstCells]
    · simp [Builtin.append_, run_underlying Try.underlying27, sizeOf, typeInfo, hi, Builtin.lenOf, Builtin.firstCells, h2, storeCells]
  | some x =>
    have hnews : ∀ j q, (u8s l)[j]? = some q → w.cell? (x.add j) = some q := by
      intro j q hj
      have hjl : j < l.length := by have := (List.getElem?_eq_some_iff.1 hj).1; simpa using this
      rw [u8s_get l j hjl] at hj
      cases hj
      exact hcell x rfl j hjl
    have one : ∀ q ∈ u8s l, q.oneCell' = true := by
      intro q hq
      obtain ⟨_, _, rfl⟩ := List.mem_map.1 hq
      rfl
    rcases hr.2 with ⟨rfl, rfl⟩ | ⟨g, off, cap, cur, rfl, hh, h1, h2, h3, h4⟩
    · obtain ⟨v', w', hrun, ho, hg, _, hat⟩ := run_append_own_at (P := Try.prog) w 0 27 ty 5 i0 (.int .u8 0) 1 1 Try.underlying27 hi hz0 hz1 hz2 rfl (by decide) _ 0 [] (World.ownsRow_nil w 0 5 1) x len cap0 (u8s l) (by simp [hl]) hnews one (by simp [maxLen]; simp at hlen; omega) (by simp at hlen; omega) (Nat.zero_le _)
      refine ⟨v', w', hrun, RestB.of_own (B := 0) ?_ hb, hg, ?_⟩
      · unfold OwnB
        rw [List.nil_append, hl]
        simpa using ho
      · rcases hat with e | e
        · exact .inl e
        · exact .inr (fun b hb => by rw [e] at hb; obtain rfl := Option.some.inj hb; exact Nat.le_refl _)
    · by_cases hroom : R.length + len ≤ cap
      · have hcs : ∀ j, w.cell? ⟨g, j, none⟩ = cur[j]? := fun j => cell_of_row _ _ j _ 5 (0, 0) hh
        have hrun := run_append_room_cells (P := Try.prog) w 27 ty 5 i0 Try.underlying27 hi g off R.length cap x len cap0 (u8s l) (by rw [hz1]; simp [hl]) hnews one hroom
          (by intro j hj; rw [hcs, Array.getElem?_eq_getElem (by rw [hz1]; simp at hj; omega)]; rfl) (by intro j _; exact frozen_of_row _ _ _ _ _ hh)
        rw [hz1, Nat.mul_one] at hrun
        obtain ⟨cur', e1, e2, e3⟩ := setCells_same g 5 (u8s l) (off + R.length) w cur hh (by simp; omega)
        obtain ⟨p1, p2, p3, p4⟩ := setCells_plain g (u8s l) (off + R.length) w
        refine ⟨_, _, hrun, ⟨hb, .inr ⟨g, off, cap, cur', by rw [List.length_append, hl], e1, by rw [e2]; exact h1, by rw [List.length_append]; omega, h3, ?_⟩⟩, ⟨p1, p2, p3, by rw [p4]; exact Nat.le_refl _, fun b _ hb => setCells_other g b (fun e => hb (by rw [e]; rfl)) _ _ _⟩, .inl rfl⟩
        rw [e3, List.append_assoc, List.drop_append_of_le_length (by simp; omega), List.drop_take, Nat.add_sub_cancel_left, h4, u8s_append, ← List.append_assoc]
        exact List.take_left' (by simp)
      · have holds : ∀ j q, (u8s R)[j]? = some q → w.cell? ((⟨g, off, none⟩ : Addr).add j) = some q := by
          intro j q hj
          have hjl : j < R.length := by have := (List.getElem?_eq_some_iff.1 hj).1; simpa using this
          rw [u8s_get R j hjl] at hj
          cases hj
          rw [Addr.add_lit]
          exact hr.cell j hjl
        obtain ⟨v', w', hrun, ho, hg⟩ := run_append_arg_grows (P := Try.prog) w 27 ty 5 i0 (.int .u8 0) 1 1 Try.underlying27 hi hz0 hz1 hz2 rfl (by decide) ⟨g, off, none⟩ R.length cap (u8s R) (by simp) holds x len cap0 (u8s l) (by simp [hl]) hnews (by omega) (by simp [maxLen]; omega) (by omega)
        refine ⟨v', w', hrun, RestB.of_own (B := w.heap.size) ?_ hb, ⟨hg.os, hg.tape, hg.output, hg.size, fun b h1 _ => hg.block b h1 (by simp)⟩, .inr fun b hbb => ?_⟩
        · unfold OwnB
          rw [u8s_append, List.length_append, hl]
          exact ho
        · rcases ho.2 with ⟨rfl, _⟩ | ⟨g', cap', cur', rfl, hbg, _⟩
          · simp [Value.ownBlock] at hbb
          · simp [Value.ownBlock] at hbb; omega

/-- 'append(tail, xs...)', in a walk -/
theorem applr {ops : Array Oper} {rest : List Oper} {o : Oper} {a : Act} {Q : Exit → Act → World → Prop} (hgd : o.guard = none) (s x : Operand)
    (ho : o.op = .call { callee := .builtin .append, args := #[s, x], argTypes := #[27, 27] })
    {w : World} {v u : Value} {R l : List Nat} (hr : RestB w v R) (hu : RowB w u l)
    (hs : a.eval s = v) (hx : a.eval x = u) (hlen : R.length + l.length ≤ 140737488355328)
    (h : ∀ o' w2, RestB w2 o' (R ++ l) → w.grownBy w2 v.ownBlock → Moved v o' w → wpList Try.prog ops Q rest (a.put o.dst o') w2) :
    wpList Try.prog ops Q (o :: rest) a w := by
  obtain ⟨v', w', hrun, h1, h2, h3⟩ := run_append_rest o.type hr hu hlen
  refine wpList_plain hgd fun K hK => ?_
  unfold Oper.wp
  simp [execOp, ho, resolve, invoke, builtin, hs, hx, hrun, Result.andThen]
  exact hK _ _ (h _ _ h1 h2 h3)

set_option maxRecDepth 100000 in
set_option maxHeartbeats 1000000 in
/-- bytes put behind those that came and are not yet read -/
theorem put_rest (p : Nat) (f r h v : Value) (seg len lits left a : Int) (R l : List Nat) (w : World) (hf : FeedB w p f r h seg len lits left a) (hr : RestB w r R) (hv : RowB w v l) (hl : R.length + l.length ≤ 140737488355328) :
    Calls Try.prog 9 #[.pointer (some ⟨p, 0, none⟩), v] w fun e w' => ∃ r', e = .returned (.tuple #[]) ∧ FeedB w' p f r' h seg len lits left a ∧ RestB w' r' (R ++ l) ∧ Foot p r w w' ∧ Moved r r' w := by
  obtain ⟨c0, c1, c2, c3, c4, c5, c6, c7, x0, x1, x2, x3, x4, x5, x6, x7⟩ := hf.at
  have HF := Lib.hid hf
  have HNE := Lib.hid (RestB.ne_feed hf hr)
  clear hf
  go_enter Try.func9, Try.ntmps9
  go_wp2_with (at_builtin; go_loud (refine applr rfl (.tmp 10) (.tmp 11) rfl hr hv rfl rfl hl ?_); intro o' w2 ho hg2 hm2; obtain ⟨oa, oc, rfl⟩ := ho.shape'; simp only [List.length_append] at ho hm2; have HF2 := Lib.hid (HF.out.grown hg2 HNE.out); obtain ⟨d0, d1, d2, d3, d4, d5, d6, d7, e0, e1, e2, e3, e4, e5, e6, e7⟩ := HF2.out.at; have HO2 := Lib.hid ho; have HG2 := Lib.hid hg2; have HM2 := Lib.hid hm2; clear ho hg2 hm2)
  go_end0
  have hne2 := RestB.ne_feed HF2.out (v := .slice oa (R.length + l.length) oc) (R := R ++ l) HO2.out
  exact ⟨_, rfl, HF2.out.set1 _, HO2.out.keep (fun b hb => heap_setCell_other _ _ _ _ (by rintro rfl; exact hne2 hb)), (Foot.of_grown HG2.out).set, HM2.out⟩
end Go.Proofs.Ytgafalobbhoaoaa
