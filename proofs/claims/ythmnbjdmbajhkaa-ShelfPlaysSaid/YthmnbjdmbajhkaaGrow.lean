/-
  The order's own Push, whatever it holds.
-/
import Derived.Test.YthmnbjdmbajhkaaDown
import Derived.Maps.AppendAt
namespace Go.Proofs.Ythmnbjdmbajhkaa
set_option linter.unusedVariables false
open Go.RowKit
attribute [local go_sem] Oper.semAt_some

/-- the clean things in their order, as the shelf holds them: a nil row as well -/
def OrdS (w : World) (r : Option Addr) (cap : Nat) (L : List Th) : Prop :=
  (r = none ∧ cap = 0 ∧ L = []) ∨ ∃ og, r = some ⟨og, 0, none⟩ ∧ cap ≤ maxLen ∧ Ord w og cap L
/-- the blocks of it -/
def sOwn (r : Option Addr) (L : List Th) (k : Nat) : Prop := (∃ og, r = some ⟨og, 0, none⟩ ∧ k = og) ∨ ∃ x ∈ L, x.blk = k
theorem sOwn_some {og : Nat} {L : List Th} {k : Nat} : sOwn (some ⟨og, 0, none⟩) L k ↔ ordOwn og L k := by
  unfold sOwn ordOwn
  constructor
  · rintro (⟨o, h, rfl⟩ | h)
    · cases h; exact .inl rfl
    · exact .inr h
  · rintro (rfl | h)
    · exact .inl ⟨_, rfl, rfl⟩
    · exact .inr h
theorem OrdS.owns {w : World} {r : Option Addr} {cap : Nat} {L : List Th} (h : OrdS w r cap L) : w.ownsRow 0 57 1 (.slice r L.length cap) L.length (L.map thP) := by
  rcases h with ⟨rfl, rfl, rfl⟩ | ⟨og, rfl, hm, hO⟩
  · exact ⟨rfl, .inl ⟨rfl, rfl⟩⟩
  · obtain ⟨cur, h1, h2, h3, h4⟩ := hO.row
    refine ⟨by simp, .inr ⟨og, cap, cur, rfl, Nat.zero_le _, h1, h3, hm, by omega, ?_⟩⟩
    apply List.ext_getElem?
    intro i
    rw [Nat.mul_one, List.getElem?_take]
    by_cases hi : i < L.length
    · rw [if_pos hi, Array.getElem?_toList, h4 i hi, List.getElem?_map, List.getElem?_eq_getElem hi]
      rfl
    · rw [if_neg hi, List.getElem?_map, List.getElem?_eq_none (by omega)]
      rfl
theorem OrdS.beside {own : Nat → Prop} {w w' : World} {r : Option Addr} {cap : Nat} {L : List Th} (h : OrdS w r cap L) (hb : Beside own w w') (hn : ∀ k, sOwn r L k → ¬ own k) : OrdS w' r cap L := by
  rcases h with h | ⟨og, rfl, hm, hO⟩
  · exact .inl h
  · exact .inr ⟨og, rfl, hm, hO.beside hb (fun k hk => hn k (sOwn_some.2 hk))⟩
theorem OrdS.below {w w' : World} {r : Option Addr} {cap : Nat} {L : List Th} (h : OrdS w r cap L) (hb : Below w.heap.size w w') : OrdS w' r cap L := h.beside (own := fun _ => False) (Below.beside hb) (fun _ _ h => h)

/-- 'append' of one thing -/
theorem appG {ops : Array Oper} {rest : List Oper} {o : Oper} {a : Act} {Q : Exit → Act → World → Prop} (hgd : o.guard = none) (s x : Operand)
    (ho : o.op = .call { callee := .builtin .append, args := #[s, x], argTypes := #[54, 54] }) {wr : World} {u : Value} {r : Option Addr} {n cap : Nat} {xs : List Value}
    {g : Nat} (hs : a.eval s = .slice r n cap) (hx : a.eval x = .slice (some ⟨g, 0, none⟩) 1 1) (hg : g = wr.heap.size) (hu : u.oneCell' = true) (hown : wr.ownsRow 0 57 1 (.slice r n cap) n xs) (hn : n ≤ 1000000)
    (h : ∀ og' cap' w2, w2.ownsRow 0 57 1 (.slice (some ⟨og', 0, none⟩) (n + 1) cap') (n + 1) (xs ++ [u]) → Beside (fun k => ∃ og, r = some ⟨og, 0, none⟩ ∧ k = og) wr w2 → ((∃ og, r = some ⟨og, 0, none⟩ ∧ og' = og) ∨ wr.heap.size ≤ og') → wpList Try.prog ops Q rest (a.put o.dst (.slice (some ⟨og', 0, none⟩) (n + 1) cap')) w2) :
    wpList Try.prog ops Q (o :: rest) a (wr.alloc (.cells #[u] 57)) := by
  subst hg
  obtain ⟨i0, hi, hz0, hz1, hz2⟩ := info_parts Try.info57
  have hown2 : (wr.alloc (.cells #[u] 57)).ownsRow 0 57 1 (.slice r n cap) n xs := by
    refine ⟨hown.1, ?_⟩
    rcases hown.2 with h | ⟨g, c, cur, e, h0, hh, h1⟩
    · exact .inl h
    · exact .inr ⟨g, c, cur, e, h0, (Below.heap_alloc _ _ _ (Array.getElem?_eq_some_iff.1 hh).1).trans hh, h1⟩
  refine wpList_append_own_at _ hgd s x 54 ho 0 57 i0 _ 1 8 Try.underlying54 hi hz0 hz1 hz2 rfl (by decide) (.slice r n cap) n xs hs hown2 ⟨wr.heap.size, 0, none⟩ 1 1 [u] hx rfl (cell_one_new wr u 57) (by intro v hv; simp at hv; subst hv; exact hu) (by simp [maxLen]; omega) (by omega) (Nat.zero_le _) ?_
  intro v' w2 ho' hgr _ hat
  have hv : ∃ og' cap', v' = .slice (some ⟨og', 0, none⟩) (n + 1) cap' := by
    rcases ho'.2 with ⟨_, h0⟩ | ⟨g, c, cur, e, _⟩
    · omega
    · exact ⟨g, c, e⟩
  obtain ⟨og', cap', rfl⟩ := hv
  have hob : (Value.slice r n cap).ownBlock = none ∨ ∃ og, r = some ⟨og, 0, none⟩ ∧ (Value.slice r n cap).ownBlock = some og := by
    rcases hown.2 with ⟨e, _⟩ | ⟨g, c, cur, e, _⟩
    · cases e; exact .inl rfl
    · cases e; exact .inr ⟨g, rfl, rfl⟩
  have hb0 : Beside (fun k => ∃ og, r = some ⟨og, 0, none⟩ ∧ k = og) wr w2 := ((Beside.refl _ wr).alloc _).grown hgr (fun k hk => by
    rcases hob with e | ⟨og, e1, e2⟩
    · rw [e] at hk; cases hk
    · rw [e2] at hk; cases hk; exact .inl ⟨_, e1, rfl⟩)
  refine h og' cap' w2 ho' hb0 ?_
  rcases hat with e | e
  · rcases hob with e0 | ⟨og, e1, e2⟩
    · rw [e0] at e; cases e
    · rw [e2] at e; cases e; exact .inl ⟨_, e1, rfl⟩
  · right
    simp [Value.ownBlock] at e
    omega

set_option maxRecDepth 100000 in
set_option maxHeartbeats 4000000 in
theorem push_any (p ty : Nat) (cs : Array Value) (r : Option Addr) (cap : Nat) (L : List Th) (t : Th) (pl : Int) (w : World) (hp : At w p (.cells cs ty (0, 0))) (hc : cs[3]? = some (.slice r L.length cap)) (hO : OrdS w r cap L) (ht : At w t.blk (.cells (thC t pl) 60 (0, 0)))
    (hpt : p ≠ t.blk) (hpo : ¬ sOwn r L p) (hto : ¬ sOwn r L t.blk) (hL : L.length ≤ 999999) :
    Calls Try.prog 57 #[.pointer (some ⟨p, 3, none⟩), .iface 57 (.pointer (some ⟨t.blk, 0, none⟩))] w fun e w' => e = .returned (.tuple #[]) ∧
      ∃ og' cap', At w' p (.cells (cs.setIfInBounds 3 (.slice (some ⟨og', 0, none⟩) (L.length + 1) cap')) ty (0, 0)) ∧ cap' ≤ maxLen ∧ Ord w' og' cap' (L ++ [t]) ∧ Beside (fun k => k = p ∨ k = t.blk ∨ sOwn r L k) w w' ∧ ((∃ og, r = some ⟨og, 0, none⟩ ∧ og' = og) ∨ w.heap.size ≤ og') := by
  have ha := assert57
  have cc := hp.cell 3 _ hc
  have cf := hp.froz 3
  obtain ⟨-, -, -, -, tc, tf, -⟩ := thC_at ht
  have hpl := hp.lt
  have htl := ht.lt
  have HP := Lib.hid hp
  have HC := Lib.hid hc
  have HT := Lib.hid ht
  have HO := Lib.hid hO
  have HPO := Lib.hid hpo
  have HTO := Lib.hid hto
  have hbt : Beside (fun k => k = p ∨ k = t.blk ∨ sOwn r L k) w (w.setCell ⟨t.blk, 4, none⟩ (.int .i64 L.length)) := (Beside.refl _ w).setCell (p := ⟨t.blk, 4, none⟩) (.inl (.inr (.inl rfl))) _
  have hown1 : (w.setCell ⟨t.blk, 4, none⟩ (.int .i64 L.length)).ownsRow 0 57 1 (.slice r L.length cap) L.length (L.map thP) :=
    (hO.beside (own := fun k => k = t.blk) (Beside.setCell (own := fun k => k = t.blk) (Beside.refl _ w) (p := ⟨t.blk, 4, none⟩) (.inl rfl) _) (fun k hk e => hto (e ▸ hk))).owns
  have HOWN := Lib.hid hown1
  have HBT := Lib.hid hbt
  clear hp hc ht hO hpo hto hown1 hbt
  go_enter Try.func57, Try.ntmps57
  go_wp2_with (at_builtin
               refine appG rfl (.tmp 22) (.tmp 24) rfl rfl rfl (by simp) rfl (by simpa using HOWN.out) (by omega) ?_
               intro og' cap' w2 ho' hb2 hat
               have HOW := Lib.hid ho'
               have HB2 := Lib.hid hb2
               have HAT := Lib.hid hat
               have hp2 : At w2 p (.cells cs ty (0, 0)) := (HP.out.other (j := 4) (v := .int .i64 L.length) hpt).beside hb2 (fun ⟨og, e, k⟩ => HPO.out (.inl ⟨og, e, k⟩))
               have hc2 : w2.cell? ⟨p, 3, none⟩ = some (.slice r L.length cap) := hp2.cell 3 _ HC.out
               have hf2 : w2.frozen? ⟨p, 3, none⟩ = false := hp2.froz 3
               have HP2 := Lib.hid hp2
               clear ho' hb2 hat hp2)
  refine bodyPost_end (v := .tuple #[]) (by simp [results, Try.results57, go_sem]) rfl ⟨rfl, og', cap', ?_⟩
  have hnp : og' ≠ p := by
    rintro rfl
    rcases HAT.out with ⟨og, e, k⟩ | h
    · exact HPO.out (.inl ⟨og, e, k⟩)
    · simp at h; omega
  have ht2 : At w2 t.blk (.cells (thC t L.length) 60 (0, 0)) := by
    have h1 := HT.out.set 4 (.int .i64 L.length)
    rw [thC_set] at h1
    exact h1.beside HB2.out (fun ⟨og, e, k⟩ => HTO.out (.inl ⟨og, e, k⟩))
  have hth : ∀ i (hi : i < L.length), At w2 L[i].blk (.cells (thC L[i] i) 60 (0, 0)) := by
    intro i hi
    have hne : L[i].blk ≠ t.blk := fun e => HTO.out (.inr ⟨_, List.getElem_mem hi, e⟩)
    rcases HO.out with ⟨_, _, e⟩ | ⟨og, e, _, hO⟩
    · subst e; cases hi
    · refine ((hO.th i hi).other (j := 4) (v := .int .i64 L.length) hne).beside HB2.out ?_
      rintro ⟨o, e1, e2⟩
      rw [e] at e1
      cases e1
      exact hO.ne i hi e2
  have hnd : ∀ i j (hi : i < L.length) (hj : j < L.length), L[i].blk = L[j].blk → i = j := by
    intro i j hi hj he
    rcases HO.out with ⟨_, _, e⟩ | ⟨og, e, _, hO⟩
    · subst e; cases hi
    · exact hO.nd i j hi hj he
  have hps : ∀ i (hi : i < L.length), L[i].blk ≠ p := fun i hi e => HPO.out (.inr ⟨_, List.getElem_mem hi, e⟩)
  have hrow := HOW.out.2.resolve_left (by rintro ⟨_, h⟩; omega)
  obtain ⟨g, c, cur, e, -, hh, h1, h2, h3, h4⟩ := hrow
  cases e
  refine ⟨HP2.out.set 3 _, h2, ⟨⟨cur, At.other hh hnp, by omega, by simp; omega, ?_⟩, ?_, ?_⟩, ?_, ?_⟩
  · intro i hi
    have hi' : i < L.length + 1 := by simpa using hi
    have h5 := congrArg (fun l => l[i]?) h4
    simp only [Nat.mul_one, List.getElem?_take, if_pos hi', Array.getElem?_toList] at h5
    rw [h5]
    by_cases hl : i < L.length
    · rw [List.getElem?_append_left (by simpa using hl), List.getElem_append_left hl, List.getElem?_map, List.getElem?_eq_getElem hl]
      rfl
    · obtain rfl : i = L.length := by omega
      rw [List.getElem?_append_right (by simp), List.getElem_append_right (by omega)]
      simp [thP]
  · intro i hi
    have hi' : i < L.length + 1 := by simpa using hi
    by_cases hl : i < L.length
    · rw [List.getElem_append_left hl]
      exact (hth i hl).other (hps i hl)
    · obtain rfl : i = L.length := by omega
      rw [List.getElem_append_right (by omega)]
      simp only [Nat.sub_self, List.getElem_singleton]
      exact ht2.other (fun e => hpt e.symm)
  · intro i j hi hj he
    have hi' : i < L.length + 1 := by simpa using hi
    have hj' : j < L.length + 1 := by simpa using hj
    by_cases hl : i < L.length
    · by_cases hm : j < L.length
      · rw [List.getElem_append_left hl, List.getElem_append_left hm] at he
        exact hnd i j hl hm he
      · obtain rfl : j = L.length := by omega
        rw [List.getElem_append_left hl, List.getElem_append_right (by omega)] at he
        simp only [Nat.sub_self, List.getElem_singleton] at he
        exact absurd (.inr ⟨_, List.getElem_mem hl, he⟩) HTO.out
    · obtain rfl : i = L.length := by omega
      by_cases hm : j < L.length
      · rw [List.getElem_append_left hm, List.getElem_append_right (by omega)] at he
        simp only [Nat.sub_self, List.getElem_singleton] at he
        exact absurd (.inr ⟨_, List.getElem_mem hm, he.symm⟩) HTO.out
      · omega
  · exact (HBT.out.trans (HB2.out.mono (fun k _ hk => .inr (.inr (.inl hk))))).setCell (p := ⟨p, 3, none⟩) (.inl (.inl rfl)) _
  · simpa using HAT.out
end Go.Proofs.Ythmnbjdmbajhkaa
