/-
  Several texts of one proof, each in a section of its own: SecP, SecM, SecN, SecG, SecO.
-/
import Derived.Test.YtnncldnpkfjhbaaGreatDoorMg24
import Derived.Laws.EntriesVeiled
import Derived.StillTailTactics
namespace Go.Proofs.YtnncldnpkfjhbaaGreatDoor
section
set_option linter.unusedVariables false
open Go.RowKit Go.Lib

/-- a part of a message -/
def OkPart (l : List Nat) (q : PT) : Prop := ∃ k f t, q = partS l k f t ∧ f ≤ t ∧ t ≤ l.length
theorem OkPart.facts {l : List Nat} {q : PT} (h : OkPart l q) : q.head ≤ q.frm ∧ q.frm ≤ q.to ∧ q.to ≤ l.length := by
  obtain ⟨k, f, t, rfl, hf, ht⟩ := h
  obtain ⟨e1, e2, e3⟩ := partS_in (l := l) k hf ht
  have := bodyS_le (l := l) hf ht
  omega
theorem OkPart.kids {l : List Nat} {q : PT} (h : OkPart l q) : ∀ r ∈ q.kids, OkPart l r := by
  obtain ⟨k, f, t, rfl, hf, ht⟩ := h
  have hb := bodyS_le (l := l) hf ht
  intro r hr
  cases k with
  | zero => simp [partS, PT.kids] at hr
  | succ k =>
    simp only [partS, PT.kids] at hr
    split at hr
    · obtain ⟨p, hp, rfl⟩ := List.mem_map.1 hr
      have := spansS_in hb.2 ht p hp
      exact ⟨k, p.1, p.2, rfl, by omega, by omega⟩
    · split at hr
      · obtain rfl : r = _ := List.mem_singleton.1 hr
        exact ⟨k, _, _, rfl, hb.2, ht⟩
      · cases hr
theorem OkPart.down {l : List Nat} {q : PT} (h : OkPart l q) : OkPart l (downP q) := by
  induction q using downP.induct with
  | case1 ty sub hd f t n q r hc ih =>
    rw [downP, if_pos hc]
    exact ih (h.kids q (by simp [PT.kids]))
  | case2 ty sub hd f t n q r hc => rw [downP, if_neg hc]; exact h
  | case3 ty sub hd f t n => exact h
theorem OkPart.lead {l : List Nat} {p q : PT} {z : Int} (h : OkPart l p) (e : leadP p z = some q) : OkPart l q := by
  unfold leadP at e
  split at e
  · split at e
    · exact h.down.kids q (List.mem_of_getElem? e)
    · cases e
  · split at e
    · obtain rfl := Option.some.inj e
      exact h.down
    · cases e
theorem OkPart.find {l : List Nat} : ∀ (L : List Int) {p q : PT}, OkPart l p → findP p L = some q → OkPart l q
  | [], p, q, h, e => by obtain rfl := Option.some.inj e; exact h
  | z :: L, p, q, h, e => by
    rw [findP] at e
    split at e
    · rename_i r hr
      exact OkPart.find L (h.lead hr) e
    · cases e
theorem root_ok (l : List Nat) : OkPart l (rootP l) := ⟨6, 0, l.length, rfl, Nat.zero_le _, Nat.le_refl _⟩
theorem root_facts (l : List Nat) : (rootP l).head = 0 ∧ (rootP l).frm = splitS l ∧ (rootP l).to = l.length := by
  obtain ⟨e1, e2, e3⟩ := partS_in (l := l) 6 (Nat.zero_le l.length) (Nat.le_refl _)
  refine ⟨e1, e2.trans ?_, e3⟩
  unfold bodyS rngS
  simp

theorem rng_join {l : List Nat} {a b c : Nat} (h1 : a ≤ b) (h2 : b ≤ c) (h3 : c ≤ l.length) : rngS l a b ++ rngS l b c = rngS l a c := by
  unfold rngS
  have e : l.take c = l.take b ++ (l.take c).drop b := by
    conv => lhs; rw [← List.take_append_drop b (l.take c)]
    rw [List.take_take, Nat.min_eq_left h2]
  conv => rhs; rw [e]
  rw [List.drop_append_of_le_length (by rw [List.length_take]; omega)]
theorem rng_all (l : List Nat) : rngS l 0 l.length = l := by unfold rngS; simp

/-- the fields of a header alone are the message's -/
theorem fields_head (l : List Nat) : fieldsS (rngS l 0 (splitS l)) = fieldsS l := by
  have e : rngS l 0 (splitS l) = l.take (splitS l) := by unfold rngS; simp
  rw [e]
  rcases Nat.lt_or_ge (splitS l) l.length with h | h
  · have := fieldsS_cut l [] h
    simpa using this
  · rw [List.take_of_length_le h]
theorem only_len (l : List Nat) (S : List ByteArray) (nt : Bool) : 2 ≤ (onlyS l S nt).length := by unfold onlyS; simp
theorem only_end (l : List Nat) (S : List ByteArray) (nt : Bool) : (onlyS l S nt).drop ((onlyS l S nt).length - 2) = [13, 10] := by
  unfold onlyS
  rw [List.length_append]
  simp
theorem only_sum (l : List Nat) (S : List ByteArray) : (toldS (onlyS (rngS l 0 (splitS l)) S false)).length + (toldS (onlyS (rngS l 0 (splitS l)) S true)).length = (toldS l).length := by
  rw [told_only, told_only, fields_head]
  unfold toldS
  simp only [List.length_map]
  exact pick_sum S _
end
section
set_option linter.unusedVariables false
open Go.RowKit Go.Lib Go.Shelf Go.Joins
attribute [local go_sem] Oper.semAt_some

theorem bclone_any (v : Value) (l : List Nat) (w : World) (hr : RowB w v l) (hs : l.length ≤ 140737488351232) : Calls Tryz.prog 18 #[v] w fun e w' => ∃ o, e = .returned o ∧ OwnB w' w.heap.size o l ∧ Below w.heap.size w w' := by
  obtain ⟨i0, hi, hz0, hz1, hz2⟩ := info_parts Tryz.info5
  obtain ⟨a, len, cap, rfl, hl, hc, hm, hw, hn, hcell⟩ := hr
  cases a with
  | none =>
    obtain ⟨rfl, rfl⟩ := hn rfl
    obtain rfl : l = [] := List.eq_nil_of_length_eq_zero hl
    have he := Lib.run_eql_slice_nil (P := Tryz.prog)
    go_enter Tryz.func18, Tryz.ntmps18
    go_wp2_with fail
    go_ret
    exact ⟨_, rfl, World.ownsRow_nil _ _ _ _, Below.refl _ _⟩
  | some x =>
    have he := fun (w : World) => Lib.run_eql_slice_nil (P := Tryz.prog) w 22 5 (some x) len cap 0 0 Tryz.underlying22
    have hown0 := World.ownsRow_lit (base := w.heap.size) (e := 5) (size := 1) w #[] 0 (Nat.le_refl _) (by decide) rfl
    have hnews : ∀ j u, (u8s l)[j]? = some u → (w.alloc (.cells #[] 5)).cell? (x.add j) = some u := by
      intro j u hj
      have hjl : j < l.length := by have := (List.getElem?_eq_some_iff.1 hj).1; simpa using this
      rw [u8s_get l j hjl] at hj
      cases hj
      have hx := hcell x rfl j hjl
      rw [Below.cell ((Below.refl w.heap.size w).alloc (Nat.le_refl _) _) (World.block_lt_of_cell? w _ hx)]
      exact hx
    have one : ∀ u ∈ u8s l, u.oneCell' = true := by
      intro u hu
      obtain ⟨_, _, rfl⟩ := List.mem_map.1 hu
      rfl
    have Hcell := Lib.hid hcell
    have Hl := Lib.hid hl
    have Hnews := Lib.hid hnews
    have hsl : len ≤ 140737488351232 := by omega
    clear hcell hl hnews hs
    go_enter Tryz.func18, Tryz.ntmps18
    go_wp2_with (at_builtin; go_loud (refine wpList_append_own _ rfl (.tmp 5) (.tmp 6) 22 rfl (w.heap.size) 5 i0 (.int .u8 0) 1 1 Tryz.underlying22 hi hz0 hz1 hz2 rfl (by decide) _ _ _ rfl hown0 x len cap (u8s l) rfl (by rw [u8s_length, Hl.out]; simp) Hnews.out one (by simp [maxLen]; omega) (by simp; omega) (by simp) ?_))
    intro o w1 ho hgr _
    go_wp2_with fail
    go_ret
    refine ⟨_, rfl, ?_, ?_⟩
    · unfold OwnB
      rw [Hl.out]
      simpa using ho
    · exact ((Below.refl _ _).alloc (Nat.le_refl _) _).grown hgr (by simp) (by intro k hk; simp [Value.ownBlock] at hk; omega)

/-- what a way answers -/
def WayOk (w : World) (m : List Nat) (b : Bool) (e : Ending) (w' : World) : Prop := ∃ o, e = .returned (.tuple #[o, .bool b]) ∧ RowB w' o m ∧ Below w.heap.size w w'
theorem RowB.facts {w : World} {a : Option Addr} {len cap : Nat} {l : List Nat} (h : RowB w (.slice a len cap) l) : l.length = len ∧ len ≤ cap := by
  obtain ⟨a', len', cap', e, hl, hc, _⟩ := h
  obtain ⟨rfl, rfl, rfl⟩ := Value.slice.inj e
  exact ⟨hl, hc⟩
set_option maxRecDepth 100000 in
set_option maxHeartbeats 2000000 in
theorem secCut_any (a : Option Addr) (cap : Nat) (l : List Nat) (k n : Nat) (w : World) (hr : RowB w (.slice a l.length cap) l) (hl : l.length ≤ 1000000) (hk : k ≤ l.length) (hn : 1 ≤ n) (hn2 : n ≤ 1000) : Calls Tryz.prog 10 #[.slice a l.length cap, .int .i64 (k : Nat), .int .i64 (n : Nat)] w fun e w' => ∃ o, e = .returned o ∧ OwnB w' w.heap.size o ((l.drop k).take n) ∧ Below w.heap.size w w' := by
  have hcap := hr.facts.2
  have hk2 : (k : Int) ≤ (l.length : Int) := by omega
  have hk3 : (k : Int) ≤ (cap : Int) := by omega
  have hk4 : ¬ (l.length : Int) < (k : Int) := by omega
  have hn3 : (0 : Int) < (n : Int) := by omega
  have hn4 : ¬ (n : Int) < 0 := by omega
  have HN := Lib.hid (And.intro hn hn2)
  by_cases hlt : n < l.length - k
  · have hx : rngS l k (k + n) = (l.drop k).take n := by
      unfold rngS
      rw [List.drop_take, Nat.add_sub_cancel_left]
    have hr2 := hr.rng (f := k) (t := k + n) (by omega) (by omega)
    have hck : ¬ cap = k := by omega
    rw [hx, Nat.add_sub_cancel_left, if_neg hck] at hr2
    have HC := Lib.hid (bclone_any _ _ w hr2 (by simp; omega))
    have h4 : ((n : Int) < ((l.length - k : Nat) : Int)) := by omega
    have h5 : (n : Int) ≤ ((cap - k : Nat) : Int) := by omega
    clear hr hr2 hx hn hn2 hlt hk
    go_enter Tryz.func10, Tryz.ntmps10
    go_wp2_with (go_at_call 18; go_loud (refine HC.out.mono ?_; rintro e w1 ⟨o, rfl, ho, hb⟩))
    go_ret
    exact ⟨o, rfl, ho, hb⟩
  · have hx : rngS l k l.length = (l.drop k).take n := by
      unfold rngS
      rw [List.take_length, List.take_of_length_le (by simp; omega)]
    have hr2 := hr.rng (f := k) (t := l.length) (by omega) (by omega)
    rw [hx] at hr2
    by_cases hck : cap = k
    · rw [if_pos hck, show cap - k = 0 by omega] at hr2
      have HC := Lib.hid (bclone_any _ _ w hr2 (by simp; omega))
      have h4 : ¬ ((n : Int) < ((l.length - k : Nat) : Int)) := by omega
      clear hr hr2 hx hn hn2 hlt hk
      go_enter Tryz.func10, Tryz.ntmps10
      go_wp2_with (go_at_call 18; go_loud (refine HC.out.mono ?_; rintro e w1 ⟨o, rfl, ho, hb⟩))
      go_ret
      exact ⟨o, rfl, ho, hb⟩
    · rw [if_neg hck] at hr2
      have HC := Lib.hid (bclone_any _ _ w hr2 (by simp; omega))
      have h4 : ¬ ((n : Int) < ((l.length - k : Nat) : Int)) := by omega
      clear hr hr2 hx hn hn2 hlt hk
      go_enter Tryz.func10, Tryz.ntmps10
      go_wp2_with (go_at_call 18; go_loud (refine HC.out.mono ?_; rintro e w1 ⟨o, rfl, ho, hb⟩))
      go_ret
      exact ⟨o, rfl, ho, hb⟩

set_option maxRecDepth 100000 in
set_option maxHeartbeats 2000000 in
theorem all_any (a : Option Addr) (cap : Nat) (l : List Nat) (pa : Option Addr) (pn pc kd : Nat) (fv : Value) (K0 S0 : ByteArray) (h0 f0 t0 n0 : Nat) (ka : Option Addr) (kn kc : Nat) (w : World) (hr : RowB w (.slice a l.length cap) l) (h1 : h0 ≤ f0) (h2 : f0 ≤ t0) (h3 : t0 ≤ l.length) : Calls Tryz.prog 13 #[.agg #[.slice a l.length cap, .slice pa pn pc, .int .i64 (kd : Nat), fv, .string K0, .string S0, .int .i64 (h0 : Nat), .int .i64 (f0 : Nat), .int .i64 (t0 : Nat), .int .i64 (n0 : Nat), .slice ka kn kc]] w (WayOk w (if pn = 0 then l else rngS l f0 t0) true) := by
  have hb : ∀ C : Array Value, Below w.heap.size w (w.alloc (.cells C 47)) := fun C => (Below.refl _ w).alloc (Nat.le_refl _) _
  have hcap := hr.facts.2
  have HR := Lib.hid hr
  have HS := Lib.hid (And.intro h1 (And.intro h2 h3))
  have HB := Lib.hid hb
  have i0 : (h0 : Int) ≤ (f0 : Int) := by omega
  have i1 : (f0 : Int) ≤ (t0 : Int) := by omega
  have i2 : (t0 : Int) ≤ (cap : Int) := by omega
  have i4 : (f0 : Int) ≤ (cap : Int) := by omega
  have i3 : ((t0 : Int) - (f0 : Int)).toNat = t0 - f0 := by omega
  clear hr hb h1 h2 h3 hcap
  by_cases hp : pn = 0
  · subst hp
    go_enter Tryz.func13, Tryz.ntmps13
    go_wp2_with fail
    exact bodyPost_ret (results_tmp2 rfl _ _ _) rfl ⟨_, rfl, HR.out.below (HB.out _), HB.out _⟩
  · have hp2 : ((pn : Int) == 0) = false := by simp; omega
    have HP := Lib.hid hp
    clear hp
    go_enter Tryz.func13, Tryz.ntmps13
    go_wp2_with fail
    all_goals
      have hrg := (HR.out.rng HS.out.2.1 HS.out.2.2).below (HB.out #[.slice a l.length cap, .slice pa pn pc, .int .i64 (kd : Nat), fv, .string K0, .string S0, .int .i64 (h0 : Nat), .int .i64 (f0 : Nat), .int .i64 (t0 : Nat), .int .i64 (n0 : Nat), .slice ka kn kc])
      refine bodyPost_ret (results_tmp2 rfl _ _ _) rfl ⟨_, rfl, ?_, HB.out _⟩
      first
      | (simpa using hrg)
      | (simpa [*] using hrg)

set_option maxRecDepth 100000 in
set_option maxHeartbeats 2000000 in
theorem mime_any (a : Option Addr) (cap : Nat) (l : List Nat) (pa : Option Addr) (pn pc kd : Nat) (fv : Value) (K0 S0 : ByteArray) (h0 f0 t0 n0 : Nat) (ka : Option Addr) (kn kc : Nat) (w : World) (hr : RowB w (.slice a l.length cap) l) (h1 : h0 ≤ f0) (h2 : f0 ≤ t0) (h3 : t0 ≤ l.length) (hp : 0 < pn) : Calls Tryz.prog 16 #[.agg #[.slice a l.length cap, .slice pa pn pc, .int .i64 (kd : Nat), fv, .string K0, .string S0, .int .i64 (h0 : Nat), .int .i64 (f0 : Nat), .int .i64 (t0 : Nat), .int .i64 (n0 : Nat), .slice ka kn kc]] w (WayOk w (rngS l h0 f0) true) := by
  have hb : ∀ C : Array Value, Below w.heap.size w (w.alloc (.cells C 47)) := fun C => (Below.refl _ w).alloc (Nat.le_refl _) _
  have hcap := hr.facts.2
  have HR := Lib.hid hr
  have HS := Lib.hid (And.intro h1 (And.intro h2 h3))
  have HB := Lib.hid hb
  have i0 : (h0 : Int) ≤ (f0 : Int) := by omega
  have i1 : (f0 : Int) ≤ (t0 : Int) := by omega
  have i2 : (t0 : Int) ≤ (cap : Int) := by omega
  have i4 : (f0 : Int) ≤ (cap : Int) := by omega
  have i3 : ((t0 : Int) - (f0 : Int)).toNat = t0 - f0 := by omega
  clear hr hb h1 h2 h3 hcap
  go_enter Tryz.func16, Tryz.ntmps16
  go_wp2_with go_region
  all_goals
    have hrg := (HR.out.rng HS.out.1 (by have := HS.out; omega)).below (HB.out #[.slice a l.length cap, .slice pa pn pc, .int .i64 (kd : Nat), fv, .string K0, .string S0, .int .i64 (h0 : Nat), .int .i64 (f0 : Nat), .int .i64 (t0 : Nat), .int .i64 (n0 : Nat), .slice ka kn kc]).drew
    refine bodyPost_ret (results_tmp2 rfl _ _ _) rfl ⟨_, rfl, ?_, (HB.out _).drew⟩
    first
    | (simpa using hrg)
    | (simpa [*] using hrg)

theorem res23 (tmps : Array Value) (W : World) (b : Nat) (ok : Bool) (x0 x1 x2 x3 x4 x5 x6 : Value) (h : tmps[2]?.getD undef = .pointer (some ⟨b, 0, none⟩)) (h5 : tmps[3]?.getD undef = .bool ok) (hc : W.heap[b]? = some (.cells #[x0, x1, x2, x3, x4, x5, x6] 37 (0, 0))) : (results Tryz.f23 tmps).run Tryz.prog W = .ok (.tuple #[.agg #[x0, x1, x2, x3, x4, x5, x6], .bool ok]) W := by
  obtain ⟨m0, m1, m2, m3, m4, m5, m6⟩ := cells7 hc
  simp [results, Tryz.results23, h, h5, asAddr, loadVar, go_sem, m0, m1, m2, m3, m4, m5, m6]
set_option maxRecDepth 100000 in
set_option maxHeartbeats 2000000 in
theorem message_any (b : Value) (pa : Option Addr) (pc kd : Nat) (fv : Value) (K0 S0 : ByteArray) (h0 f0 t0 n0 : Nat) (ka : Option Addr) (kn kc : Nat) (w : World) : Calls Tryz.prog 23 #[.agg #[b, .slice pa 0 pc, .int .i64 (kd : Nat), fv, .string K0, .string S0, .int .i64 (h0 : Nat), .int .i64 (f0 : Nat), .int .i64 (t0 : Nat), .int .i64 (n0 : Nat), .slice ka kn kc]] w fun e w' => e = .returned (.tuple #[.agg #[.string K0, .string S0, .int .i64 (h0 : Nat), .int .i64 (f0 : Nat), .int .i64 (t0 : Nat), .int .i64 (n0 : Nat), .slice ka kn kc], .bool true]) ∧ Below w.heap.size w w' := by
  have hb1 : Below w.heap.size w ((w.alloc (.cells #[b, .slice pa 0 pc, .int .i64 (kd : Nat), fv, .string K0, .string S0, .int .i64 (h0 : Nat), .int .i64 (f0 : Nat), .int .i64 (t0 : Nat), .int .i64 (n0 : Nat), .slice ka kn kc] 47)).alloc (.cells #[.string ⟨#[]⟩, .string ⟨#[]⟩, .int .i64 0, .int .i64 0, .int .i64 0, .int .i64 0, .slice none 0 0] 37)) := ((Below.refl _ w).alloc (Nat.le_refl _) _).alloc (by simp) _
  have hb2 : Below w.heap.size w ((w.alloc (.cells #[b, .slice pa 0 pc, .int .i64 (kd : Nat), fv, .string K0, .string S0, .int .i64 (h0 : Nat), .int .i64 (f0 : Nat), .int .i64 (t0 : Nat), .int .i64 (n0 : Nat), .slice ka kn kc] 47)).alloc (.cells #[.string K0, .string S0, .int .i64 (h0 : Nat), .int .i64 (f0 : Nat), .int .i64 (t0 : Nat), .int .i64 (n0 : Nat), .slice ka kn kc] 37)) := ((Below.refl _ w).alloc (Nat.le_refl _) _).alloc (by simp) _
  have hN := heap_alloc_new (w.alloc (.cells #[b, .slice pa 0 pc, .int .i64 (kd : Nat), fv, .string K0, .string S0, .int .i64 (h0 : Nat), .int .i64 (f0 : Nat), .int .i64 (t0 : Nat), .int .i64 (n0 : Nat), .slice ka kn kc] 47)) (.cells #[.string K0, .string S0, .int .i64 (h0 : Nat), .int .i64 (f0 : Nat), .int .i64 (t0 : Nat), .int .i64 (n0 : Nat), .slice ka kn kc] 37)
  have hsz : (w.alloc (.cells #[b, .slice pa 0 pc, .int .i64 (kd : Nat), fv, .string K0, .string S0, .int .i64 (h0 : Nat), .int .i64 (f0 : Nat), .int .i64 (t0 : Nat), .int .i64 (n0 : Nat), .slice ka kn kc] 47)).heap.size = w.heap.size + 1 := by simp
  rw [hsz] at hN
  have H1 := Lib.hid (And.intro hb2 hN)
  clear hb1 hb2 hN hsz
  go_enter Tryz.func23, Tryz.ntmps23
  go_wp2_with fail
  exact bodyPost_ret (res23 _ _ _ _ _ _ _ _ _ _ _ rfl rfl H1.out.2) rfl ⟨rfl, H1.out.1⟩
end
section
set_option linter.unusedVariables false
open Go.RowKit Go.Lib Go.Shelf Go.Joins
attribute [local go_sem] Oper.semAt_some

set_option maxRecDepth 100000 in
set_option maxHeartbeats 2000000 in
theorem header_any (a : Option Addr) (cap : Nat) (l : List Nat) (pa : Option Addr) (pc kd : Nat) (fv : Value) (K0 S0 : ByteArray) (h0 f0 t0 n0 : Nat) (ka : Option Addr) (kn kc : Nat) (w : World) (hr : RowB w (.slice a l.length cap) l) (h1 : h0 ≤ f0) (h2 : f0 ≤ t0) (h3 : t0 ≤ l.length) : Calls Tryz.prog 14 #[.agg #[.slice a l.length cap, .slice pa 0 pc, .int .i64 (kd : Nat), fv, .string K0, .string S0, .int .i64 (h0 : Nat), .int .i64 (f0 : Nat), .int .i64 (t0 : Nat), .int .i64 (n0 : Nat), .slice ka kn kc]] w (WayOk w (rngS l h0 f0) true) := by
  have hcap := hr.facts.2
  have hrg := hr.rng (f := h0) (t := f0) (by omega) (by omega)
  have HR := Lib.hid hrg
  have HM := Lib.hid (fun W => message_any (.slice a l.length cap) pa pc kd fv K0 S0 h0 f0 t0 n0 ka kn kc W)
  have HBX := Lib.hid (heap_alloc_new w (.cells #[.slice a l.length cap, .slice pa 0 pc, .int .i64 (kd : Nat), fv, .string K0, .string S0, .int .i64 (h0 : Nat), .int .i64 (f0 : Nat), .int .i64 (t0 : Nat), .int .i64 (n0 : Nat), .slice ka kn kc] 47))
  have HB1 := Lib.hid ((Below.refl w.heap.size w).alloc (Nat.le_refl _) (.cells #[.slice a l.length cap, .slice pa 0 pc, .int .i64 (kd : Nat), fv, .string K0, .string S0, .int .i64 (h0 : Nat), .int .i64 (f0 : Nat), .int .i64 (t0 : Nat), .int .i64 (n0 : Nat), .slice ka kn kc] 47))
  have hsz : (w.alloc (.cells #[.slice a l.length cap, .slice pa 0 pc, .int .i64 (kd : Nat), fv, .string K0, .string S0, .int .i64 (h0 : Nat), .int .i64 (f0 : Nat), .int .i64 (t0 : Nat), .int .i64 (n0 : Nat), .slice ka kn kc] 47)).heap.size = w.heap.size + 1 := by simp
  have i0 : (h0 : Int) ≤ (f0 : Int) := by omega
  have i1 : (f0 : Int) ≤ (t0 : Int) := by omega
  have i2 : (t0 : Int) ≤ (cap : Int) := by omega
  have i4 : (f0 : Int) ≤ (cap : Int) := by omega
  have i3 : ((t0 : Int) - (f0 : Int)).toNat = t0 - f0 := by omega
  have HSZ := Lib.hid hsz
  clear hr hrg hcap h1 h2 h3 hsz
  go_enter Tryz.func14, Tryz.ntmps14
  go_upto_region 2 with (go_at_call 23; refine (HM.out _).mono ?_; rintro e w1 ⟨rfl, hb⟩; have hb0 := (hb.block w.heap.size (by simp)).trans HBX.out; have c0 := cell_of_row w1 w.heap.size 0 _ _ _ hb0)
  have hz1 : w.heap.size < w1.heap.size := by have := hb.size; rw [HSZ.out] at this; omega
  have hb4 : Below w.heap.size w (w1.alloc (.cells #[.string K0, .string S0, .int .i64 (h0 : Nat), .int .i64 (f0 : Nat), .int .i64 (t0 : Nat), .int .i64 (n0 : Nat), .slice ka kn kc] 37)) := (HB1.out.trans (hb.mono (by simp))).alloc (by omega) _
  have hr4 := HR.out.below hb4
  have hx4 := heap_alloc_new w1 (.cells #[.string K0, .string S0, .int .i64 (h0 : Nat), .int .i64 (f0 : Nat), .int .i64 (t0 : Nat), .int .i64 (n0 : Nat), .slice ka kn kc] 37)
  have c4 : (w1.alloc (.cells #[.string K0, .string S0, .int .i64 (h0 : Nat), .int .i64 (f0 : Nat), .int .i64 (t0 : Nat), .int .i64 (n0 : Nat), .slice ka kn kc] 37)).cell? ⟨w.heap.size, 0, none⟩ = some (.slice a l.length cap) := (cell_of_row _ _ 0 _ _ _ ((Below.heap_alloc _ _ _ hz1).trans hb0)).trans rfl
  obtain ⟨q, hq⟩ : ∃ q, w1.heap.size = q := ⟨_, rfl⟩
  rw [hq] at hx4 ⊢
  generalize w1.alloc (.cells #[.string K0, .string S0, .int .i64 (h0 : Nat), .int .i64 (f0 : Nat), .int .i64 (t0 : Nat), .int .i64 (n0 : Nat), .slice ka kn kc] 37) = W4 at *
  obtain ⟨m0, m1, m2, m3, m4, m5, m6⟩ := cells7 hx4
  have H4 := Lib.hid (And.intro hb4 hr4)
  clear hb4 hr4 hx4 c0 hb0 hb hz1 hq HBX HB1 HR HM HSZ
  go_wp2_with fail
  all_goals
    have hrg := H4.out.2
    refine bodyPost_ret (results_tmp2 rfl _ _ _) rfl ⟨_, rfl, ?_, H4.out.1⟩
    first
    | (simpa using hrg)
    | (simpa [*] using hrg)

set_option maxRecDepth 100000 in
set_option maxHeartbeats 2000000 in
theorem text_any (a : Option Addr) (cap : Nat) (l : List Nat) (pa : Option Addr) (pc kd : Nat) (fv : Value) (K0 S0 : ByteArray) (h0 f0 t0 n0 : Nat) (ka : Option Addr) (kn kc : Nat) (w : World) (hr : RowB w (.slice a l.length cap) l) (h1 : h0 ≤ f0) (h2 : f0 ≤ t0) (h3 : t0 ≤ l.length) : Calls Tryz.prog 15 #[.agg #[.slice a l.length cap, .slice pa 0 pc, .int .i64 (kd : Nat), fv, .string K0, .string S0, .int .i64 (h0 : Nat), .int .i64 (f0 : Nat), .int .i64 (t0 : Nat), .int .i64 (n0 : Nat), .slice ka kn kc]] w (WayOk w (rngS l f0 t0) true) := by
  have hcap := hr.facts.2
  have hrg := hr.rng (f := f0) (t := t0) (by omega) (by omega)
  have HR := Lib.hid hrg
  have HM := Lib.hid (fun W => message_any (.slice a l.length cap) pa pc kd fv K0 S0 h0 f0 t0 n0 ka kn kc W)
  have HBX := Lib.hid (heap_alloc_new w (.cells #[.slice a l.length cap, .slice pa 0 pc, .int .i64 (kd : Nat), fv, .string K0, .string S0, .int .i64 (h0 : Nat), .int .i64 (f0 : Nat), .int .i64 (t0 : Nat), .int .i64 (n0 : Nat), .slice ka kn kc] 47))
  have HB1 := Lib.hid ((Below.refl w.heap.size w).alloc (Nat.le_refl _) (.cells #[.slice a l.length cap, .slice pa 0 pc, .int .i64 (kd : Nat), fv, .string K0, .string S0, .int .i64 (h0 : Nat), .int .i64 (f0 : Nat), .int .i64 (t0 : Nat), .int .i64 (n0 : Nat), .slice ka kn kc] 47))
  have hsz : (w.alloc (.cells #[.slice a l.length cap, .slice pa 0 pc, .int .i64 (kd : Nat), fv, .string K0, .string S0, .int .i64 (h0 : Nat), .int .i64 (f0 : Nat), .int .i64 (t0 : Nat), .int .i64 (n0 : Nat), .slice ka kn kc] 47)).heap.size = w.heap.size + 1 := by simp
  have i0 : (h0 : Int) ≤ (f0 : Int) := by omega
  have i1 : (f0 : Int) ≤ (t0 : Int) := by omega
  have i2 : (t0 : Int) ≤ (cap : Int) := by omega
  have i4 : (f0 : Int) ≤ (cap : Int) := by omega
  have i3 : ((t0 : Int) - (f0 : Int)).toNat = t0 - f0 := by omega
  have HSZ := Lib.hid hsz
  clear hr hrg hcap h1 h2 h3 hsz
  go_enter Tryz.func15, Tryz.ntmps15
  go_upto_region 2 with (go_at_call 23; refine (HM.out _).mono ?_; rintro e w1 ⟨rfl, hb⟩; have hb0 := (hb.block w.heap.size (by simp)).trans HBX.out; have c0 := cell_of_row w1 w.heap.size 0 _ _ _ hb0)
  have hz1 : w.heap.size < w1.heap.size := by have := hb.size; rw [HSZ.out] at this; omega
  have hb4 : Below w.heap.size w (w1.alloc (.cells #[.string K0, .string S0, .int .i64 (h0 : Nat), .int .i64 (f0 : Nat), .int .i64 (t0 : Nat), .int .i64 (n0 : Nat), .slice ka kn kc] 37)) := (HB1.out.trans (hb.mono (by simp))).alloc (by omega) _
  have hr4 := HR.out.below hb4
  have hx4 := heap_alloc_new w1 (.cells #[.string K0, .string S0, .int .i64 (h0 : Nat), .int .i64 (f0 : Nat), .int .i64 (t0 : Nat), .int .i64 (n0 : Nat), .slice ka kn kc] 37)
  have c4 : (w1.alloc (.cells #[.string K0, .string S0, .int .i64 (h0 : Nat), .int .i64 (f0 : Nat), .int .i64 (t0 : Nat), .int .i64 (n0 : Nat), .slice ka kn kc] 37)).cell? ⟨w.heap.size, 0, none⟩ = some (.slice a l.length cap) := (cell_of_row _ _ 0 _ _ _ ((Below.heap_alloc _ _ _ hz1).trans hb0)).trans rfl
  obtain ⟨q, hq⟩ : ∃ q, w1.heap.size = q := ⟨_, rfl⟩
  rw [hq] at hx4 ⊢
  generalize w1.alloc (.cells #[.string K0, .string S0, .int .i64 (h0 : Nat), .int .i64 (f0 : Nat), .int .i64 (t0 : Nat), .int .i64 (n0 : Nat), .slice ka kn kc] 37) = W4 at *
  obtain ⟨m0, m1, m2, m3, m4, m5, m6⟩ := cells7 hx4
  have H4 := Lib.hid (And.intro hb4 hr4)
  clear hb4 hr4 hx4 c0 hb0 hb hz1 hq HBX HB1 HR HM HSZ
  go_wp2_with fail
  all_goals
    have hrg := H4.out.2
    refine bodyPost_ret (results_tmp2 rfl _ _ _) rfl ⟨_, rfl, ?_, H4.out.1⟩
    first
    | (simpa using hrg)
    | (simpa [*] using hrg)
end
section
set_option linter.unusedVariables false
open Go.RowKit Go.Lib Go.Shelf Go.Joins
attribute [local go_sem] Oper.semAt_some

theorem onlyS_lt {l : List Nat} (hl : ∀ c ∈ l, c < 256) (S : List ByteArray) (nt : Bool) : ∀ c ∈ onlyS l S nt, c < 256 := by
  intro c hc
  unfold onlyS rawF pickF at hc
  rcases List.mem_append.1 hc with h | h
  · obtain ⟨f, hf, hcf⟩ := List.mem_flatMap.1 h
    exact (fieldsS_bts hl f (List.mem_filter.1 hf).1).2 c hcf
  · simp at h
    omega
theorem rngS_lt {l : List Nat} (hl : ∀ c ∈ l, c < 256) (f t : Nat) : ∀ c ∈ rngS l f t, c < 256 := fun c hc => hl c (List.mem_of_mem_take (List.mem_of_mem_drop hc))
set_option maxRecDepth 100000 in
set_option maxHeartbeats 2000000 in
theorem fieldsOf_any (a : Option Addr) (cap : Nat) (l : List Nat) (pa : Option Addr) (pc kd : Nat) (fv : Value) (S : List ByteArray) (K0 S0 : ByteArray) (h0 f0 t0 n0 : Nat) (ka : Option Addr) (kn kc : Nat) (w : World) (hr : RowB w (.slice a l.length cap) l) (h1 : h0 ≤ f0) (h2 : f0 ≤ t0) (h3 : t0 ≤ l.length) (hl : l.length ≤ 100000) (hS : StrsIn w fv S) (hSl : S.length ≤ 1000000) : Calls Tryz.prog 17 #[.agg #[.slice a l.length cap, .slice pa 0 pc, .int .i64 (kd : Nat), fv, .string K0, .string S0, .int .i64 (h0 : Nat), .int .i64 (f0 : Nat), .int .i64 (t0 : Nat), .int .i64 (n0 : Nat), .slice ka kn kc]] w (WayOk w (onlyS (rngS l h0 f0) S (kd == 5)) true) := by
  have hlt := hr.lt
  obtain ⟨fa, fc, rfl⟩ := hS.shape
  have hb0 := (Below.refl w.heap.size w).alloc (Nat.le_refl _) (.cells #[.slice a l.length cap, .slice pa 0 pc, .int .i64 (kd : Nat), .slice fa S.length fc, .string K0, .string S0, .int .i64 (h0 : Nat), .int .i64 (f0 : Nat), .int .i64 (t0 : Nat), .int .i64 (n0 : Nat), .slice ka kn kc] 47)
  have hx := heap_alloc_new w (.cells #[.slice a l.length cap, .slice pa 0 pc, .int .i64 (kd : Nat), .slice fa S.length fc, .string K0, .string S0, .int .i64 (h0 : Nat), .int .i64 (f0 : Nat), .int .i64 (t0 : Nat), .int .i64 (n0 : Nat), .slice ka kn kc] 47)
  have HHD := Lib.hid (header_any a cap l pa pc kd (.slice fa S.length fc) K0 S0 h0 f0 t0 n0 ka kn kc _ (hr.below hb0) h1 h2 h3)
  have HS := Lib.hid (And.intro hS (And.intro hb0 (And.intro hx (And.intro hl (And.intro hSl hlt)))))
  have HLN := Lib.hid (And.intro h1 (And.intro h2 h3))
  clear hr hS hb0 hx hlt hl hSl h1 h2 h3
  have hk : (((kd : Int)) == 5) = (kd == 5) := by
    by_cases h : kd = 5
    · subst h; rfl
    · rw [beq_eq_false_iff_ne.2 h, beq_eq_false_iff_ne.2 (by omega)]
  obtain ⟨bk, hbk⟩ : ∃ bk, (kd == 5) = bk := ⟨_, rfl⟩
  rw [hbk] at hk ⊢
  have HK := Lib.hid hbk
  clear hbk
  go_enter Tryz.func17, Tryz.ntmps17
  go_upto_region 2 with (go_at_call 14; refine HHD.out.mono ?_; rintro e w1 ⟨o, rfl, ho, hb⟩; have hb0 := (hb.block w.heap.size (by simp)).trans HS.out.2.2.1; have c0 := cell_of_row w1 w.heap.size 0 _ _ _ hb0; have c2 := cell_of_row w1 w.heap.size 2 _ _ _ hb0; have c3 := cell_of_row w1 w.heap.size 3 _ _ _ hb0)
  have hb1 := HS.out.2.1.trans (hb.mono (by simp))
  have hon := only_any o (.slice fa S.length fc) (rngS l h0 f0) S bk w1 ho (by rw [rngS_len (by have := HLN.out; omega)]; have := HLN.out; have := HS.out.2.2.2.1; omega) (HS.out.1.below hb1) HS.out.2.2.2.2.1
  have HON := Lib.hid hon
  have HB := Lib.hid hb1
  clear hon hb1 ho hb hb0 HHD
  go_wp2_with (go_at_call 24; refine HON.out.mono ?_; rintro e w2 ⟨o2, rfl, ho2, hb2⟩)
  refine bodyPost_ret (results_tmp2 rfl _ _ _) rfl ⟨_, rfl, ?_, HB.out.trans (hb2.mono HB.out.size)⟩
  exact ho2.rowB (onlyS_lt (rngS_lt HS.out.2.2.2.2.2 _ _) _ _)
end
section
set_option linter.unusedVariables false
open Go.RowKit Go.Lib Go.Shelf Go.Joins
attribute [local go_sem] Oper.semAt_some

def askS (l : List Nat) (kd : Nat) (L : List Int) (S : List ByteArray) (q : PT) : List Nat :=
  if kd = 0 then (if L = [] then l else rngS l q.frm q.to) else if kd = 1 then rngS l q.head q.frm else if kd = 2 then rngS l q.frm q.to else if kd = 3 then rngS l q.head q.frm else onlyS (rngS l q.head q.frm) S (kd == 5)
/-- what Of tells -/
def OfOk (l : List Nat) (kd : Nat) (L : List Int) (S : List ByteArray) (w : World) (e : Ending) (W' : World) : Prop :=
  ∃ u ok, e = .returned (.tuple #[u, .bool ok]) ∧ (ok = true → ∃ q, findP (rootP l) L = some q ∧ OwnB W' w.heap.size u (askS l kd L S q)) ∧ (ok = false → findP (rootP l) L = none ∧ u = .slice none 0 0) ∧ Below w.heap.size w W'
def kindsV : Array Value := #[.func (.func 13) #[] #[], .func (.func 14) #[] #[], .func (.func 15) #[] #[], .func (.func 16) #[] #[], .func (.func 17) #[] #[], .func (.func 17) #[] #[]]
theorem own_low {w : World} {B B' : Nat} {v : Value} {l : List Nat} (h : OwnB w B v l) (hB : B' ≤ B) : OwnB w B' v l := by
  refine ⟨h.1, ?_⟩
  rcases h.2 with h2 | ⟨g, cap, cur, e, hb, r⟩
  · exact .inl h2
  · exact .inr ⟨g, cap, cur, e, Nat.le_trans hB hb, r⟩
end
end Go.Proofs.YtnncldnpkfjhbaaGreatDoor
