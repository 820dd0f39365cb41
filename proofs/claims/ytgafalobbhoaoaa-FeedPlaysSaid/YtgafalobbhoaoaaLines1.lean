/-
  The contracts that the walk of FeedLines wants: Put, Next, bytes of a text, digits.
-/
import Derived.Test.YtgafalobbhoaoaaLinesP
import Derived.Test.YtgafalobbhoaoaaNextN
import Derived.Lib.ConvBytes
import Derived.Deep.RegionLaw
import Derived.Deep.RegionHeld
namespace Go.Proofs.Ytgafalobbhoaoaa
set_option linter.unusedVariables false
open Go.RowKit

/-- a feed, asked or not yet asked -/
def FeedN (w : World) (p : Nat) (r h : Value) (s : St) : Prop := FeedS w p r h s ∨ (s.m = .line ∧ FeedB w p .nilFunc r h s.seg s.len s.lits s.left s.ahead ∧ OwnB w 0 h s.H)

theorem next_all (p : Nat) (g off cap n : Nat) (h : Value) (s : St) (R : List Nat) (hn : n = R.length) (hok : Ok s) (w : World) (k : FeedN w p (.slice (some ⟨g, off, none⟩) n cap) h s) (hr : RestB w (.slice (some ⟨g, off, none⟩) n cap) R) (hd : h.ownBlock ≠ some g) (hR : R.length ≤ 2000000) :
    Calls Try.prog 14 #[.pointer (some ⟨p, 0, none⟩)] w (NextIs w p (.slice (some ⟨g, off, none⟩) n cap) h (runS s R)) := by
  subst hn
  rcases k with k | ⟨hm, kb, ko⟩
  · exact next_F p g off cap h s R hok w k hr hd hR
  · exact next_N p g off cap h s R hok w hm kb ko hr hd hR

/-- the bytes of a text, in a new block -/
theorem conv_any (s : ByteArray) (w : World) : ∃ cap w1, (convert 9 27 (.string s)).run Try.prog w = .ok (.slice (some ⟨w.heap.size, 0, none⟩) s.size cap) w1 ∧ Below w.heap.size w w1 ∧ (s.size ≤ 140737488351232 → RowB w1 (.slice (some ⟨w.heap.size, 0, none⟩) s.size cap) (natsS s)) ∧ w1.heap.size = w.heap.size + 1 := by
  refine ⟨grownCap w s.size 0 5, Lib.bytesWorld w 5 s, Lib.run_convert_string_bytes w 9 27 5 s Try.underlying9 Try.underlying27 Try.underlying5, ?_, fun hs => ?_, Lib.bytesWorld_size w 5 s⟩
  · exact ⟨rfl, rfl, rfl, by rw [Lib.bytesWorld_size]; omega, fun i hi => Lib.bytesWorld_at_old w 5 s i hi⟩
  · refine ⟨_, _, _, rfl, natsS_len s, grownCap_ge w s.size 0 5, grownCap_le_maxLen w s.size 0 5 (by unfold maxLen; omega), ?_, by simp, fun x hx i hi => ?_⟩
    · intro n hn
      obtain ⟨b, _, rfl⟩ := List.mem_map.1 hn
      exact UInt8.toNat_lt b
    · obtain rfl := Option.some.inj hx
      have hi' : i < s.size := by rw [natsS_len] at hi; exact hi
      rw [Addr.add_lit, Nat.zero_add, Lib.bytesWorld_cell w 5 s i hi', natsS_at s i hi']
      have : s.data.toList.getD i 0 = s[i] := by
        have h2 : i < s.data.toList.length := by rw [Array.length_toList]; exact hi'
        rw [List.getD_eq_getElem?_getD, List.getElem?_eq_getElem h2]
        rfl
      rw [this]

/-- 'append(out, xs...)' of a row of bytes, with what it leaves alone -/
theorem applg {ops : Array Oper} {rest : List Oper} {o : Oper} {a : Act} {Q : Exit → Act → World → Prop} (hgd : o.guard = none) (s x : Operand)
    (ho : o.op = .call { callee := .builtin .append, args := #[s, x], argTypes := #[27, 27] })
    {w : World} {v u : Value} {l m : List Nat} (hown : OwnB w 0 v l) (hr : RowB w u m)
    (hs : a.eval s = v) (hx : a.eval x = u) (hlen : l.length + m.length ≤ 140737488355328)
    (h : ∀ o' w2, OwnB w2 0 o' (l ++ m) → w.grownBy w2 v.ownBlock → Moved v o' w → wpList Try.prog ops Q rest (a.put o.dst o') w2) :
    wpList Try.prog ops Q (o :: rest) a w := by
  obtain ⟨i0, hi, hz0, hz1, hz2⟩ := info_parts Try.info5
  obtain ⟨ad, len, cap, rfl, hl, hc, hm, hw, hn, hcell⟩ := hr
  cases ad with
  | none =>
    obtain ⟨rfl, rfl⟩ := hn rfl
    obtain rfl : m = [] := List.eq_nil_of_length_eq_zero hl
    refine wpList_plain hgd fun K hK => ?_
    have hrun := run_append_owned_none (P := Try.prog) w 0 27 o.type 5 i0 1 Try.underlying27 hi v l.length (u8s l) hown
    unfold Oper.wp
    simp [execOp, ho, resolve, invoke, builtin, hs, hx, hrun, Result.andThen]
    exact hK _ _ (h _ _ (by simpa using hown) (World.grownBy.refl _ _) (Moved.refl _ _))
  | some x' =>
    refine wpList_append_own_at _ hgd s x 27 ho 0 5 i0 (.int .u8 0) 1 1 Try.underlying27 hi hz0 hz1 hz2 rfl (by decide) v l.length (u8s l) hs hown x' len cap (u8s m) hx (by simp [hl]) ?_ ?_ (by simp [maxLen]; omega) (by omega) (Nat.zero_le _) ?_
    · intro j u hj
      have hjl : j < m.length := by have := (List.getElem?_eq_some_iff.1 hj).1; simpa using this
      rw [u8s_get m j hjl] at hj
      cases hj
      exact hcell x' rfl j hjl
    · intro u hu
      obtain ⟨_, _, rfl⟩ := List.mem_map.1 hu
      rfl
    · intro o' w2 ho' hgr _ hat
      refine h o' w2 ?_ hgr ?_
      · unfold OwnB
        rw [u8s_append, List.length_append, hl]
        exact ho'
      · rcases hat with e | e
        · exact .inl e
        · exact .inr (fun g hg => by rw [e] at hg; obtain rfl := Option.some.inj hg; exact Nat.le_refl _)

set_option maxRecDepth 100000 in
set_option maxHeartbeats 1000000 in
/-- bytes put behind those that came, nobody having asked yet -/
theorem put_own (p : Nat) (f r h v : Value) (seg len lits left a : Int) (R l : List Nat) (w : World) (hf : FeedB w p f r h seg len lits left a) (hr : OwnB w 0 r R) (hv : RowB w v l) (hl : R.length + l.length ≤ 140737488355328) :
    Calls Try.prog 9 #[.pointer (some ⟨p, 0, none⟩), v] w fun e w' => ∃ r', e = .returned (.tuple #[]) ∧ FeedB w' p f r' h seg len lits left a ∧ OwnB w' 0 r' (R ++ l) ∧ Foot p r w w' ∧ Moved r r' w := by
  obtain ⟨c0, c1, c2, c3, c4, c5, c6, c7, x0, x1, x2, x3, x4, x5, x6, x7⟩ := hf.at
  have HF := Lib.hid hf
  have HNE := Lib.hid (feed_row_ne hf hr)
  clear hf
  go_enter Try.func9, Try.ntmps9
  go_wp2_with (at_builtin; go_loud (refine applg rfl (.tmp 10) (.tmp 11) rfl hr hv rfl rfl hl ?_); intro o' w2 ho hg2 hm2; obtain ⟨oa, oc, rfl⟩ := ho.shape; simp only [List.length_append] at ho hm2; have HF2 := Lib.hid (HF.out.grown hg2 HNE.out); obtain ⟨d0, d1, d2, d3, d4, d5, d6, d7, e0, e1, e2, e3, e4, e5, e6, e7⟩ := HF2.out.at; have HO2 := Lib.hid ho; have HG2 := Lib.hid hg2; have HM2 := Lib.hid hm2; clear ho hg2 hm2)
  go_end0
  exact ⟨_, rfl, HF2.out.set1 _, HO2.out.off (feed_row_ne HF2.out HO2.out), (Foot.of_grown HG2.out).set, HM2.out⟩

/-- one byte as a text -/
theorem run_one (w : World) (g z : Nat) (hz : z < 256) (hc : w.cell? ⟨g, 0, none⟩ = some (.int .u8 (z : Int))) : (convert 27 9 (.slice (some ⟨g, 0, none⟩) 1 1)).run Try.prog w = .ok (.string ⟨#[UInt8.ofNat z]⟩) w := by
  have hrow : RowB w (.slice (some ⟨g, 0, none⟩) 1 1) [z] := ⟨_, _, _, rfl, rfl, by decide, by decide, by simpa using hz, by simp, fun x hx i hi => by
    obtain rfl := Option.some.inj hx
    have h0 : i = 0 := by simpa using hi
    subst h0
    rw [Addr.add_lit, Nat.zero_add]
    exact hc⟩
  exact run_str hrow

/-- one operation of a drawn region whose run is known -/
theorem step_run {ops : Array Oper} {o : Oper} {a : Act} {w w' : World} {K : Act → World → Prop} {Q : Exit → Act → World → Prop} {E : Prop} (hg : o.guard = none) (v : Value) (hrun : (execOp a.eval o).run Try.prog w = .ok (.value v) w') (hK : K (a.put o.dst v) w') :
    if Region.wanted o (yielded ops a.tmps) = true then Oper.wp Try.prog o a w K Q else E := by
  have hw : Region.wanted o (yielded ops a.tmps) = true := by simp [Region.wanted, hg]
  rw [if_pos hw]
  unfold Oper.wp
  rw [hrun]
  exact hK
theorem exec_conv {a : Act} {o : Oper} {w : World} {v u : Value} (x : Operand) (ho : o.op = .convert 27 9 x) (hx : a.eval x = v) (hrun : (convert 27 9 v).run Try.prog w = .ok u w) : (execOp a.eval o).run Try.prog w = .ok (.value u) w := by
  unfold execOp
  simp only [ho, hx, hrun, Sem.run_bind, Sem.run_pure, Result.andThen_ok]

theorem newcell (W : World) (z : Int) : (W.alloc (.cells #[.int .u8 z] 5)).cell? ⟨W.heap.size, 0, none⟩ = some (.int .u8 z) := by rw [cell_of_row _ _ 0 _ 5 (0, 0) (heap_alloc_new W _)]; simp
theorem strN_snoc (l : List Nat) (z : Nat) : strN l ++ ⟨#[UInt8.ofNat z]⟩ = strN (l ++ [z]) := by
  apply ByteArray.ext
  unfold strN
  simp

set_option maxHeartbeats 4000000 in
theorem digits_any (n : Nat) : ∀ (w : World), n ≤ 100000 → Calls Try.prog 18 #[.int .u64 (n : Int)] w fun e w' => e = .returned (.string (strN (decL n))) ∧ Below w.heap.size w w' := by
  induction n using Nat.strongRecOn with
  | _ n ih =>
    intro w hn
    by_cases h10 : n < 10
    · rw [decL_lt h10]
      have hlt : decide ((n : Int) < 10) = true := decide_eq_true (by omega)
      have hk : ∀ W : World, (convert 27 9 (.slice (some ⟨W.heap.size, 0, none⟩) 1 1)).run Try.prog (W.alloc (.cells #[.int .u8 (48 + (n : Int))] 5)) = .ok (.string ⟨#[UInt8.ofNat (48 + n)]⟩) (W.alloc (.cells #[.int .u8 (48 + (n : Int))] 5)) := fun W => run_one _ _ (48 + n) (by omega) (by rw [cell_of_row _ _ 0 _ 5 (0, 0) (heap_alloc_new W _)]; simp)
      have hkw := hk w
      obtain ⟨S, hS⟩ : ∃ S : ByteArray, S = ⟨#[UInt8.ofNat (48 + n)]⟩ := ⟨_, rfl⟩
      rw [← hS] at hkw
      have HS := Lib.hid hS
      clear hk hS
      go_enter Try.func18, Try.ntmps18
      go_wp2_with fail
      go_ret
      exact ⟨ret_eq (show Value.string S = _ by rw [HS.out]; rfl), (Below.refl _ _).alloc (Nat.le_refl _) _⟩
    · rw [decL_ge h10]
      have hlt : decide ((n : Int) < 10) = false := decide_eq_false (by omega)
      obtain ⟨q, hq⟩ : ∃ q, q = n / 10 := ⟨_, rfl⟩
      obtain ⟨r, hr⟩ : ∃ r, r = n % 10 := ⟨_, rfl⟩
      have h1 : (n : Int).tdiv 10 = (q : Int) := by rw [Int.tdiv_eq_ediv_of_nonneg (by omega)]; omega
      have h2 : (n : Int).tmod 10 = (r : Int) := by rw [Int.tmod_eq_emod_of_nonneg (by omega)]; omega
      have hq1 : q < n := by omega
      have hr9 : r < 10 := by omega
      rw [← hq, ← hr]
      obtain ⟨S, hS⟩ : ∃ S : ByteArray, S = ⟨#[UInt8.ofNat (48 + r)]⟩ := ⟨_, rfl⟩
      have hk : ∀ (W : World) (g : Nat), W.cell? ⟨g, 0, none⟩ = some (.int .u8 (48 + (r : Int))) → (convert 27 9 (.slice (some ⟨g, 0, none⟩) 1 1)).run Try.prog W = .ok (.string S) W := fun W g h => by rw [hS]; exact run_one W g (48 + r) (by omega) h
      have hwq : IntKind.u64.wrap (q : Int) = (q : Int) := by rw [IntKind.wrap_u64]; omega
      have hwr : IntKind.u64.wrap (48 + (r : Int)) = 48 + (r : Int) := by rw [IntKind.wrap_u64]; omega
      have hwr8 : IntKind.u8.wrap (48 + (r : Int)) = 48 + (r : Int) := by rw [IntKind.wrap_u8]; omega
      have hsz1 : (strN (decL q)).size ≤ 6 := by rw [strN_size]; exact (decL_len q 5 (by omega)).2
      have hsz2 : S.size ≤ 1 := by rw [hS]; exact Nat.le_refl 1
      have HS := Lib.hid hS
      have HI := Lib.hid (ih q hq1)
      have hnew : (w.alloc (.cells #[.int .u8 (48 + (r : Int))] 5)).cell? ⟨w.heap.size, 0, none⟩ = some (.int .u8 (48 + (r : Int))) := by rw [cell_of_row _ _ 0 _ 5 (0, 0) (heap_alloc_new w _)]; simp
      have HKV := Lib.hid hk
      have HNEW := Lib.hid hnew
      clear hS ih hq hr hk hnew
      go_enter Try.func18, Try.ntmps18
      go_wp2_with fail
      refine wp_region_any (by kernel_rfl) ?_
      try (change wpAny _ _ _ _ _ _ _ (World.drew _))
      refine wpAny_take (i := 0) (oi := ⟨_, _, _, _, _, _⟩) (v := ?_) rfl (by kernel_rfl) (by kernel_rfl) (by kernel_rfl) (fun _ _ _ h => h) (Or.inl ⟨by rfl, ?_⟩) ?_
      rotate_left
      · intro w; go_simp <;> with_reducible rfl
      simp only [Act.put, List.setIfInBounds_toArray, List.set_cons_zero, List.set_cons_succ]
      refine wpAny_take (i := 1) (oi := ⟨_, _, _, _, _, _⟩) (v := ?_) rfl (by kernel_rfl) (by kernel_rfl) (by kernel_rfl) (fun _ _ _ h => h) (Or.inl ⟨by rfl, ?_⟩) ?_
      rotate_left
      · intro w; go_simp <;> with_reducible rfl
      simp only [Act.put, List.setIfInBounds_toArray, List.set_cons_zero, List.set_cons_succ]
      refine wpAny_take (i := 3) (oi := ⟨_, _, _, _, _, _⟩) (v := ?_) rfl (by kernel_rfl) (by kernel_rfl) (by kernel_rfl) (fun _ _ _ h => h) (Or.inl ⟨by rfl, ?_⟩) ?_
      rotate_left
      · intro w; go_simp <;> with_reducible rfl
      simp only [Act.put, List.setIfInBounds_toArray, List.set_cons_zero, List.set_cons_succ]
      refine wpAny_take (i := 4) (oi := ⟨_, _, _, _, _, _⟩) (v := ?_) rfl (by kernel_rfl) (by kernel_rfl) (by kernel_rfl) (fun _ _ _ h => h) (Or.inl ⟨by rfl, ?_⟩) ?_
      rotate_left
      · intro w; go_simp <;> with_reducible rfl
      simp only [Act.put, List.setIfInBounds_toArray, List.set_cons_zero, List.set_cons_succ]
      refine wpAny_take (i := 5) (oi := ⟨_, _, _, _, _, _⟩) (v := ?_) rfl (by kernel_rfl) (by kernel_rfl) (by kernel_rfl) (fun _ _ _ h => h) (Or.inl ⟨by rfl, ?_⟩) ?_
      rotate_left
      · intro w; go_simp <;> with_reducible rfl
      simp only [Act.put, List.setIfInBounds_toArray, List.set_cons_zero, List.set_cons_succ]
      refine wpAny_take (i := 6) (oi := ⟨_, _, _, _, _, _⟩) (v := ?_) rfl (by kernel_rfl) (by kernel_rfl) (by kernel_rfl) (fun _ _ _ h => h) (Or.inl ⟨by rfl, ?_⟩) ?_
      rotate_left
      · intro w; go_simp <;> with_reducible rfl
      simp only [Act.put, List.setIfInBounds_toArray, List.set_cons_zero, List.set_cons_succ]
      refine wpAny_ready (rs := [2, 7]) (by kernel_rfl) (by simp) ?_
      refine AllReady.cons (o := ⟨_, _, _, _, _, _⟩) rfl (fun K hK => ?_) ?_
      · go_simp
        go_wp2_with (go_at_call 18; refine (HI.out _ (by omega)).mono ?_; rintro e w3 ⟨rfl, hb⟩; have hb3 := Lib.hid hb; clear hb)
        try (refine hK _ _ ?_)
        try clear hK K
        refine wpAny_ready (rs := [7]) (by kernel_rfl) (by simp) ?_
        refine AllReady.cons (o := ⟨_, _, _, _, _, _⟩) rfl (fun K hK => ?_) AllReady.nil
        go_simp
        refine hK _ _ ?_
        clear hK K
        refine wpAny_ready (rs := [8]) (by kernel_rfl) (by simp) ?_
        refine AllReady.cons (o := ⟨_, _, _, _, _, _⟩) rfl (fun K hK => ?_) AllReady.nil
        refine step_run rfl _ (exec_conv (.tmp 17) rfl rfl (HKV.out _ _ ?_)) (hK _ _ ?_)
        · exact newcell w3 _
        clear hK K
        simp only [Act.put, List.setIfInBounds_toArray, List.set_cons_zero, List.set_cons_succ]
        have hbig : ((9223372036854775807 : Nat) < (strN (decL q)).size + S.size) = False := eq_false (by omega)
        refine wpAny_take (i := 9) (oi := ⟨_, _, _, _, _, _⟩) (v := ?_) rfl (by kernel_rfl) (by kernel_rfl) (by kernel_rfl) (fun _ _ _ h => h) (Or.inl ⟨by rfl, ?_⟩) ?_
        rotate_left
        · intro w; go_simp <;> with_reducible rfl
        simp only [Act.put, List.setIfInBounds_toArray, List.set_cons_zero, List.set_cons_succ]
        clear hbig
        refine wpAny_take (i := 10) (oi := ⟨_, _, _, _, _, _⟩) (v := ?_) rfl (by kernel_rfl) (by kernel_rfl) (by kernel_rfl) (fun _ _ _ h => h) (Or.inl ⟨by rfl, ?_⟩) ?_
        rotate_left
        · intro w; go_simp <;> with_reducible rfl
        simp only [Act.put, List.setIfInBounds_toArray, List.set_cons_zero, List.set_cons_succ]
        refine wpAny_done (by kernel_rfl) ?_ _
        go_wp2_with fail
        go_ret
        exact ⟨ret_eq (show Value.string (strN (decL q) ++ S) = _ by rw [HS.out, strN_snoc]), (((Below.refl w.heap.size w).drew).trans (hb3.out)).alloc (hb3.out.size) _⟩
      · refine AllReady.cons (o := ⟨_, _, _, _, _, _⟩) rfl (fun K hK => ?_) AllReady.nil
        go_simp
        refine hK _ _ ?_
        clear hK K
        refine wpAny_ready (rs := [2, 8]) (by kernel_rfl) (by simp) ?_
        refine AllReady.cons (o := ⟨_, _, _, _, _, _⟩) rfl (fun K hK => ?_) ?_
        · go_simp
          go_wp2_with (go_at_call 18; refine (HI.out _ (by omega)).mono ?_; rintro e w3 ⟨rfl, hb⟩; have hb3 := Lib.hid hb; clear hb)
          try (refine hK _ _ ?_)
          try clear hK K
          refine wpAny_ready (rs := [8]) (by kernel_rfl) (by simp) ?_
          refine AllReady.cons (o := ⟨_, _, _, _, _, _⟩) rfl (fun K hK => ?_) AllReady.nil
          refine step_run rfl _ (exec_conv (.tmp 17) rfl rfl (HKV.out _ _ ?_)) (hK _ _ ?_)
          · exact (hb3.out.cell (p := ⟨w.heap.size, 0, none⟩) (by simp)).trans (newcell w _)
          clear hK K
          simp only [Act.put, List.setIfInBounds_toArray, List.set_cons_zero, List.set_cons_succ]
          have hbig : ((9223372036854775807 : Nat) < (strN (decL q)).size + S.size) = False := eq_false (by omega)
          refine wpAny_take (i := 9) (oi := ⟨_, _, _, _, _, _⟩) (v := ?_) rfl (by kernel_rfl) (by kernel_rfl) (by kernel_rfl) (fun _ _ _ h => h) (Or.inl ⟨by rfl, ?_⟩) ?_
          rotate_left
          · intro w; go_simp <;> with_reducible rfl
          simp only [Act.put, List.setIfInBounds_toArray, List.set_cons_zero, List.set_cons_succ]
          clear hbig
          refine wpAny_take (i := 10) (oi := ⟨_, _, _, _, _, _⟩) (v := ?_) rfl (by kernel_rfl) (by kernel_rfl) (by kernel_rfl) (fun _ _ _ h => h) (Or.inl ⟨by rfl, ?_⟩) ?_
          rotate_left
          · intro w; go_simp <;> with_reducible rfl
          simp only [Act.put, List.setIfInBounds_toArray, List.set_cons_zero, List.set_cons_succ]
          refine wpAny_done (by kernel_rfl) ?_ _
          go_wp2_with fail
          go_ret
          exact ⟨ret_eq (show Value.string (strN (decL q) ++ S) = _ by rw [HS.out, strN_snoc]), ((((Below.refl w.heap.size w).alloc (Nat.le_refl _) _).drew).trans (hb3.out.mono (by simp)))⟩
        · refine AllReady.cons (o := ⟨_, _, _, _, _, _⟩) rfl (fun K hK => ?_) AllReady.nil
          refine step_run rfl _ (exec_conv (.tmp 17) rfl rfl (HKV.out _ _ ?_)) (hK _ _ ?_)
          · exact newcell w _
          clear hK K
          simp only [Act.put, List.setIfInBounds_toArray, List.set_cons_zero, List.set_cons_succ]
          refine wpAny_ready (rs := [2]) (by kernel_rfl) (by simp) ?_
          refine AllReady.cons (o := ⟨_, _, _, _, _, _⟩) rfl (fun K hK => ?_) AllReady.nil
          go_simp
          go_wp2_with (go_at_call 18; refine (HI.out _ (by omega)).mono ?_; rintro e w3 ⟨rfl, hb⟩; have hb3 := Lib.hid hb; clear hb)
          try (refine hK _ _ ?_)
          try clear hK K
          have hbig : ((9223372036854775807 : Nat) < (strN (decL q)).size + S.size) = False := eq_false (by omega)
          refine wpAny_take (i := 9) (oi := ⟨_, _, _, _, _, _⟩) (v := ?_) rfl (by kernel_rfl) (by kernel_rfl) (by kernel_rfl) (fun _ _ _ h => h) (Or.inl ⟨by rfl, ?_⟩) ?_
          rotate_left
          · intro w; go_simp <;> with_reducible rfl
          simp only [Act.put, List.setIfInBounds_toArray, List.set_cons_zero, List.set_cons_succ]
          clear hbig
          refine wpAny_take (i := 10) (oi := ⟨_, _, _, _, _, _⟩) (v := ?_) rfl (by kernel_rfl) (by kernel_rfl) (by kernel_rfl) (fun _ _ _ h => h) (Or.inl ⟨by rfl, ?_⟩) ?_
          rotate_left
          · intro w; go_simp <;> with_reducible rfl
          simp only [Act.put, List.setIfInBounds_toArray, List.set_cons_zero, List.set_cons_succ]
          refine wpAny_done (by kernel_rfl) ?_ _
          go_wp2_with fail
          go_ret
          exact ⟨ret_eq (show Value.string (strN (decL q) ++ S) = _ by rw [HS.out, strN_snoc]), ((((Below.refl w.heap.size w).alloc (Nat.le_refl _) _).drew).trans (hb3.out.mono (by simp)))⟩
end Go.Proofs.Ytgafalobbhoaoaa
