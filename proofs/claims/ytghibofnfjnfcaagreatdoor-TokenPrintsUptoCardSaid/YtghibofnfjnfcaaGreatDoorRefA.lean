/-
  The reference's small functions: alone, atom, Digits.
-/
import Derived.Test.YtghibofnfjnfcaaGreatDoorEql
namespace Go.Proofs.YtghibofnfjnfcaaGreatDoor
set_option linter.unusedVariables false
open Go.RowKit

set_option maxRecDepth 100000 in
set_option maxHeartbeats 1000000 in
theorem alone_any (c : Nat) (hc : c < 256) (w : World) : Calls Tryz.prog 36 #[.int .u8 (c : Int)] w fun e w' => e = .returned (.int .i64 (singleN c : Nat)) ∧ w = w' := by
  by_cases h1 : c = 40
  · subst h1
    go_enter Tryz.func36, Tryz.ntmps36
    go_wp2_with fail
    go_ret
    exact ⟨rfl, rfl⟩
  by_cases h2 : c = 41
  · subst h2
    go_enter Tryz.func36, Tryz.ntmps36
    go_wp2_with fail
    go_ret
    exact ⟨rfl, rfl⟩
  by_cases h3 : c = 91
  · subst h3
    go_enter Tryz.func36, Tryz.ntmps36
    go_wp2_with fail
    go_ret
    exact ⟨rfl, rfl⟩
  by_cases h4 : c = 93
  · subst h4
    go_enter Tryz.func36, Tryz.ntmps36
    go_wp2_with fail
    go_ret
    exact ⟨rfl, rfl⟩
  by_cases h5 : c = 32
  · subst h5
    go_enter Tryz.func36, Tryz.ntmps36
    go_wp2_with fail
    go_ret
    exact ⟨rfl, rfl⟩
  have g1 : ((c : Int) == 40) = false := beq_false_of_ne (by omega)
  have g2 : ((c : Int) == 41) = false := beq_false_of_ne (by omega)
  have g3 : ((c : Int) == 91) = false := beq_false_of_ne (by omega)
  have g4 : ((c : Int) == 93) = false := beq_false_of_ne (by omega)
  have g5 : ((c : Int) == 32) = false := beq_false_of_ne (by omega)
  have e : singleN c = 0 := by unfold singleN; rw [if_neg h1, if_neg h2, if_neg h3, if_neg h4, if_neg h5]
  rw [e]
  clear h1 h2 h3 h4 h5 e
  go_enter Tryz.func36, Tryz.ntmps36
  go_wp2_with fail
  go_ret
  exact ⟨rfl, rfl⟩

set_option maxRecDepth 100000 in
set_option maxHeartbeats 1000000 in
theorem ratom_any (c : Nat) (hc : c < 256) (w : World) : Calls Tryz.prog 25 #[.int .u8 (c : Int)] w fun e w' => e = .returned (.bool (inAtomN c)) ∧ w = w' := by
  have hs := alone_any c hc
  have HS := Lib.hid hs
  clear hs
  by_cases h1 : 32 < c
  · by_cases h2 : c ≤ 126
    · by_cases h3 : singleN c = 0
      · rw [h3] at HS
        by_cases h4 : c = 123
        · subst h4
          go_enter Tryz.func25, Tryz.ntmps25
          go_wp2_with fail
          refine (HS.out _).mono ?_
          rintro e w1 ⟨rfl, rfl⟩
          go_wp2_with fail
          go_ret
          exact ⟨rfl, rfl⟩
        by_cases h5 : c = 34
        · subst h5
          go_enter Tryz.func25, Tryz.ntmps25
          go_wp2_with fail
          refine (HS.out _).mono ?_
          rintro e w1 ⟨rfl, rfl⟩
          go_wp2_with fail
          go_ret
          exact ⟨rfl, rfl⟩
        have e : inAtomN c = true := by unfold inAtomN; simp [h1, h2, h3, h4, h5]
        have g1 : 32 < (c : Int) := by omega
        have g2 : (c : Int) ≤ 126 := by omega
        have g4 : ¬ (c : Int) = 123 := by omega
        have g5 : ¬ (c : Int) = 34 := by omega
        rw [e]
        clear e
        go_enter Tryz.func25, Tryz.ntmps25
        go_wp2_with fail
        refine (HS.out _).mono ?_
        rintro e w1 ⟨rfl, rfl⟩
        go_wp2_with fail
        go_ret
        exact ⟨ret_eq (by simp [g4, g5] <;> omega), rfl⟩
      · have e : inAtomN c = false := by unfold inAtomN; simp [h3]
        have g1 : 32 < (c : Int) := by omega
        have g2 : (c : Int) ≤ 126 := by omega
        have g3 : ¬ ((singleN c : Nat) : Int) = 0 := by omega
        rw [e]
        clear e h3
        generalize ((singleN c : Nat) : Int) = sg at *
        go_enter Tryz.func25, Tryz.ntmps25
        go_wp2_with fail
        refine (HS.out _).mono ?_
        rintro e w1 ⟨rfl, rfl⟩
        go_wp2_with fail
        go_ret
        exact ⟨ret_eq (by simp), rfl⟩
    · have g1 : 32 < (c : Int) := by omega
      have g2 : 126 < (c : Int) := by omega
      have e : inAtomN c = false := by unfold inAtomN; simp [h2]
      rw [e]
      clear e
      go_enter Tryz.func25, Tryz.ntmps25
      go_wp2_with fail
      go_ret
      exact ⟨ret_eq (by simp <;> omega), rfl⟩
  · have g1 : (c : Int) ≤ 32 := by omega
    have e : inAtomN c = false := by unfold inAtomN; simp [h1]
    rw [e]
    clear e
    go_enter Tryz.func25, Tryz.ntmps25
    go_wp2_with fail
    go_ret
    exact ⟨ret_eq (by simp <;> omega), rfl⟩

/-- one byte as a text -/
theorem run_oneB (w : World) (g z : Nat) (hz : z < 256) (hc : w.cell? ⟨g, 0, none⟩ = some (.int .u8 (z : Int))) : (convert 27 9 (.slice (some ⟨g, 0, none⟩) 1 1)).run Tryz.prog w = .ok (.string ⟨#[UInt8.ofNat z]⟩) w := by
  have hrow : RowB w (.slice (some ⟨g, 0, none⟩) 1 1) [z] := ⟨_, _, _, rfl, rfl, by decide, by decide, by simpa using hz, by simp, fun x hx i hi => by
    obtain rfl := Option.some.inj hx
    have h0 : i = 0 := by simpa using hi
    subst h0
    rw [Addr.add_lit, Nat.zero_add]
    exact hc⟩
  exact run_str hrow

/-- one operation of a drawn region whose run is known -/
theorem step_run {ops : Array Oper} {o : Oper} {a : Act} {w w' : World} {K : Act → World → Prop} {Q : Exit → Act → World → Prop} {E : Prop} (hg : o.guard = none) (v : Value) (hrun : (execOp a.eval o).run Tryz.prog w = .ok (.value v) w') (hK : K (a.put o.dst v) w') :
    if Region.wanted o (yielded ops a.tmps) = true then Oper.wp Tryz.prog o a w K Q else E := by
  have hw : Region.wanted o (yielded ops a.tmps) = true := by simp [Region.wanted, hg]
  rw [if_pos hw]
  unfold Oper.wp
  rw [hrun]
  exact hK
theorem exec_conv {a : Act} {o : Oper} {w : World} {v u : Value} (x : Operand) (ho : o.op = .convert 27 9 x) (hx : a.eval x = v) (hrun : (convert 27 9 v).run Tryz.prog w = .ok u w) : (execOp a.eval o).run Tryz.prog w = .ok (.value u) w := by
  unfold execOp
  simp only [ho, hx, hrun, Sem.run_bind, Sem.run_pure, Result.andThen_ok]

theorem newcell (W : World) (z : Int) : (W.alloc (.cells #[.int .u8 z] 5)).cell? ⟨W.heap.size, 0, none⟩ = some (.int .u8 z) := by rw [cell_of_row _ _ 0 _ 5 (0, 0) (heap_alloc_new W _)]; simp
theorem strN_snoc (l : List Nat) (z : Nat) : strN l ++ ⟨#[UInt8.ofNat z]⟩ = strN (l ++ [z]) := by
  apply ByteArray.ext
  unfold strN
  simp

set_option maxRecDepth 100000 in
set_option maxHeartbeats 4000000 in
theorem digits_any (n : Nat) : ∀ (w : World), n ≤ 100000 → Calls Tryz.prog 22 #[.int .u64 (n : Int)] w fun e w' => e = .returned (.string (strN (decL n))) ∧ Below w.heap.size w w' := by
  induction n using Nat.strongRecOn with
  | _ n ih =>
    intro w hn
    by_cases h10 : n < 10
    · rw [decL_lt h10]
      have hlt : decide ((n : Int) < 10) = true := decide_eq_true (by omega)
      have hk : ∀ W : World, (convert 27 9 (.slice (some ⟨W.heap.size, 0, none⟩) 1 1)).run Tryz.prog (W.alloc (.cells #[.int .u8 (48 + (n : Int))] 5)) = .ok (.string ⟨#[UInt8.ofNat (48 + n)]⟩) (W.alloc (.cells #[.int .u8 (48 + (n : Int))] 5)) := fun W => run_oneB _ _ (48 + n) (by omega) (by rw [cell_of_row _ _ 0 _ 5 (0, 0) (heap_alloc_new W _)]; simp)
      have hkw := hk w
      obtain ⟨S, hS⟩ : ∃ S : ByteArray, S = ⟨#[UInt8.ofNat (48 + n)]⟩ := ⟨_, rfl⟩
      rw [← hS] at hkw
      have HS := Lib.hid hS
      clear hk hS
      go_enter Tryz.func22, Tryz.ntmps22
      go_wp2_with fail
      go_ret
      exact ⟨ret_eq (show Value.string S = _ by rw [HS.out]; rfl), (Below.refl _ _).alloc (Nat.le_refl _) _⟩
    · rw [decL_ge h10]
      have hlt : decide ((n : Int) < 10) = false := decide_eq_false (by omega)
      obtain ⟨q, hq⟩ : ∃ q, q = n / 10 := ⟨_, rfl⟩
      obtain ⟨r, hr⟩ : ∃ r, r = n % 10 := ⟨_, rfl⟩
      have h1 : (n : Int).tdiv 10 = (q : Int) := by rw [Int.tdiv_eq_ediv_of_nonneg (by omega)]; omega
      have h2 : (n : Int).tmod 10 = (r : Int) := by rw [Int.tmod_eq_emod_of_nonneg (by omega)]; omega
      have hq1 : q < n := by omega
      have hr9 : r < 10 := by omega
      rw [← hq, ← hr]
      obtain ⟨S, hS⟩ : ∃ S : ByteArray, S = ⟨#[UInt8.ofNat (48 + r)]⟩ := ⟨_, rfl⟩
      have hk : ∀ (W : World) (g : Nat), W.cell? ⟨g, 0, none⟩ = some (.int .u8 (48 + (r : Int))) → (convert 27 9 (.slice (some ⟨g, 0, none⟩) 1 1)).run Tryz.prog W = .ok (.string S) W := fun W g h => by rw [hS]; exact run_oneB W g (48 + r) (by omega) h
      have hwq : IntKind.u64.wrap (q : Int) = (q : Int) := by rw [IntKind.wrap_u64]; omega
      have hwr : IntKind.u64.wrap (48 + (r : Int)) = 48 + (r : Int) := by rw [IntKind.wrap_u64]; omega
      have hwr8 : IntKind.u8.wrap (48 + (r : Int)) = 48 + (r : Int) := by rw [IntKind.wrap_u8]; omega
      have hsz1 : (strN (decL q)).size ≤ 100001 := by rw [strN_size]; have := decL_len q; omega
      have hsz2 : S.size ≤ 1 := by rw [hS]; exact Nat.le_refl 1
      have HS := Lib.hid hS
      have HI := Lib.hid (ih q hq1)
      have hnew : (w.alloc (.cells #[.int .u8 (48 + (r : Int))] 5)).cell? ⟨w.heap.size, 0, none⟩ = some (.int .u8 (48 + (r : Int))) := by rw [cell_of_row _ _ 0 _ 5 (0, 0) (heap_alloc_new w _)]; simp
      have HKV := Lib.hid hk
      have HNEW := Lib.hid hnew
      clear hS ih hq hr hk hnew
      go_enter Tryz.func22, Tryz.ntmps22
      go_wp2_with fail
      refine wp_region_any (by kernel_rfl) ?_
      try (change wpAny _ _ _ _ _ _ _ (World.drew _))
      refine wpAny_take (i := 0) (oi := ⟨_, _, _, _, _, _⟩) (v := ?_) rfl (by kernel_rfl) (by kernel_rfl) (by kernel_rfl) (fun _ _ _ h => h) (Or.inl ⟨by rfl, ?_⟩) ?_
      rotate_left
      · intro w; go_simp <;> with_reducible rfl
      simp only [Act.put, List.setIfInBounds_toArray, List.set_cons_zero, List.set_cons_succ]
      refine wpAny_take (i := 1) (oi := ⟨_, _, _, _, _, _⟩) (v := ?_) rfl (by kernel_rfl) (by kernel_rfl) (by kernel_rfl) (fun _ _ _ h => h) (Or.inl ⟨by rfl, ?_⟩) ?_
      rotate_left
      · intro w; go_simp <;> with_reducible rfl
      simp only [Act.put, List.setIfInBounds_toArray, List.set_cons_zero, List.set_cons_succ]
      refine wpAny_take (i := 3) (oi := ⟨_, _, _, _, _, _⟩) (v := ?_) rfl (by kernel_rfl) (by kernel_rfl) (by kernel_rfl) (fun _ _ _ h => h) (Or.inl ⟨by rfl, ?_⟩) ?_
      rotate_left
      · intro w; go_simp <;> with_reducible rfl
      simp only [Act.put, List.setIfInBounds_toArray, List.set_cons_zero, List.set_cons_succ]
      refine wpAny_take (i := 4) (oi := ⟨_, _, _, _, _, _⟩) (v := ?_) rfl (by kernel_rfl) (by kernel_rfl) (by kernel_rfl) (fun _ _ _ h => h) (Or.inl ⟨by rfl, ?_⟩) ?_
      rotate_left
      · intro w; go_simp <;> with_reducible rfl
      simp only [Act.put, List.setIfInBounds_toArray, List.set_cons_zero, List.set_cons_succ]
      refine wpAny_take (i := 5) (oi := ⟨_, _, _, _, _, _⟩) (v := ?_) rfl (by kernel_rfl) (by kernel_rfl) (by kernel_rfl) (fun _ _ _ h => h) (Or.inl ⟨by rfl, ?_⟩) ?_
      rotate_left
      · intro w; go_simp <;> with_reducible rfl
      simp only [Act.put, List.setIfInBounds_toArray, List.set_cons_zero, List.set_cons_succ]
      refine wpAny_take (i := 6) (oi := ⟨_, _, _, _, _, _⟩) (v := ?_) rfl (by kernel_rfl) (by kernel_rfl) (by kernel_rfl) (fun _ _ _ h => h) (Or.inl ⟨by rfl, ?_⟩) ?_
      rotate_left
      · intro w; go_simp <;> with_reducible rfl
      simp only [Act.put, List.setIfInBounds_toArray, List.set_cons_zero, List.set_cons_succ]
      refine wpAny_ready (rs := [2, 7]) (by kernel_rfl) (by simp) ?_
      refine AllReady.cons (o := ⟨_, _, _, _, _, _⟩) rfl (fun K hK => ?_) ?_
      · go_simp
        go_wp2_with (go_at_call 22; refine (HI.out _ (by omega)).mono ?_; rintro e w3 ⟨rfl, hb⟩; have hb3 := Lib.hid hb; clear hb)
        try (refine hK _ _ ?_)
        try clear hK K
        refine wpAny_ready (rs := [7]) (by kernel_rfl) (by simp) ?_
        refine AllReady.cons (o := ⟨_, _, _, _, _, _⟩) rfl (fun K hK => ?_) AllReady.nil
        go_simp
        refine hK _ _ ?_
        clear hK K
        refine wpAny_ready (rs := [8]) (by kernel_rfl) (by simp) ?_
        refine AllReady.cons (o := ⟨_, _, _, _, _, _⟩) rfl (fun K hK => ?_) AllReady.nil
        refine step_run rfl _ (exec_conv (.tmp 17) rfl rfl (HKV.out _ _ ?_)) (hK _ _ ?_)
        · exact newcell w3 _
        clear hK K
        simp only [Act.put, List.setIfInBounds_toArray, List.set_cons_zero, List.set_cons_succ]
        have hbig : ((9223372036854775807 : Nat) < (strN (decL q)).size + S.size) = False := eq_false (by omega)
        refine wpAny_take (i := 9) (oi := ⟨_, _, _, _, _, _⟩) (v := ?_) rfl (by kernel_rfl) (by kernel_rfl) (by kernel_rfl) (fun _ _ _ h => h) (Or.inl ⟨by rfl, ?_⟩) ?_
        rotate_left
        · intro w; go_simp <;> with_reducible rfl
        simp only [Act.put, List.setIfInBounds_toArray, List.set_cons_zero, List.set_cons_succ]
        clear hbig
        refine wpAny_take (i := 10) (oi := ⟨_, _, _, _, _, _⟩) (v := ?_) rfl (by kernel_rfl) (by kernel_rfl) (by kernel_rfl) (fun _ _ _ h => h) (Or.inl ⟨by rfl, ?_⟩) ?_
        rotate_left
        · intro w; go_simp <;> with_reducible rfl
        simp only [Act.put, List.setIfInBounds_toArray, List.set_cons_zero, List.set_cons_succ]
        refine wpAny_done (by kernel_rfl) ?_ _
        go_wp2_with fail
        go_ret
        exact ⟨ret_eq (show Value.string (strN (decL q) ++ S) = _ by rw [HS.out, strN_snoc]), (((Below.refl w.heap.size w).drew).trans (hb3.out)).alloc (hb3.out.size) _⟩
      · refine AllReady.cons (o := ⟨_, _, _, _, _, _⟩) rfl (fun K hK => ?_) AllReady.nil
        go_simp
        refine hK _ _ ?_
        clear hK K
        refine wpAny_ready (rs := [2, 8]) (by kernel_rfl) (by simp) ?_
        refine AllReady.cons (o := ⟨_, _, _, _, _, _⟩) rfl (fun K hK => ?_) ?_
        · go_simp
          go_wp2_with (go_at_call 22; refine (HI.out _ (by omega)).mono ?_; rintro e w3 ⟨rfl, hb⟩; have hb3 := Lib.hid hb; clear hb)
          try (refine hK _ _ ?_)
          try clear hK K
          refine wpAny_ready (rs := [8]) (by kernel_rfl) (by simp) ?_
          refine AllReady.cons (o := ⟨_, _, _, _, _, _⟩) rfl (fun K hK => ?_) AllReady.nil
          refine step_run rfl _ (exec_conv (.tmp 17) rfl rfl (HKV.out _ _ ?_)) (hK _ _ ?_)
          · exact (hb3.out.cell (p := ⟨w.heap.size, 0, none⟩) (by simp)).trans (newcell w _)
          clear hK K
          simp only [Act.put, List.setIfInBounds_toArray, List.set_cons_zero, List.set_cons_succ]
          have hbig : ((9223372036854775807 : Nat) < (strN (decL q)).size + S.size) = False := eq_false (by omega)
          refine wpAny_take (i := 9) (oi := ⟨_, _, _, _, _, _⟩) (v := ?_) rfl (by kernel_rfl) (by kernel_rfl) (by kernel_rfl) (fun _ _ _ h => h) (Or.inl ⟨by rfl, ?_⟩) ?_
          rotate_left
          · intro w; go_simp <;> with_reducible rfl
          simp only [Act.put, List.setIfInBounds_toArray, List.set_cons_zero, List.set_cons_succ]
          clear hbig
          refine wpAny_take (i := 10) (oi := ⟨_, _, _, _, _, _⟩) (v := ?_) rfl (by kernel_rfl) (by kernel_rfl) (by kernel_rfl) (fun _ _ _ h => h) (Or.inl ⟨by rfl, ?_⟩) ?_
          rotate_left
          · intro w; go_simp <;> with_reducible rfl
          simp only [Act.put, List.setIfInBounds_toArray, List.set_cons_zero, List.set_cons_succ]
          refine wpAny_done (by kernel_rfl) ?_ _
          go_wp2_with fail
          go_ret
          exact ⟨ret_eq (show Value.string (strN (decL q) ++ S) = _ by rw [HS.out, strN_snoc]), ((((Below.refl w.heap.size w).alloc (Nat.le_refl _) _).drew).trans (hb3.out.mono (by simp)))⟩
        · refine AllReady.cons (o := ⟨_, _, _, _, _, _⟩) rfl (fun K hK => ?_) AllReady.nil
          refine step_run rfl _ (exec_conv (.tmp 17) rfl rfl (HKV.out _ _ ?_)) (hK _ _ ?_)
          · exact newcell w _
          clear hK K
          simp only [Act.put, List.setIfInBounds_toArray, List.set_cons_zero, List.set_cons_succ]
          refine wpAny_ready (rs := [2]) (by kernel_rfl) (by simp) ?_
          refine AllReady.cons (o := ⟨_, _, _, _, _, _⟩) rfl (fun K hK => ?_) AllReady.nil
          go_simp
          go_wp2_with (go_at_call 22; refine (HI.out _ (by omega)).mono ?_; rintro e w3 ⟨rfl, hb⟩; have hb3 := Lib.hid hb; clear hb)
          try (refine hK _ _ ?_)
          try clear hK K
          have hbig : ((9223372036854775807 : Nat) < (strN (decL q)).size + S.size) = False := eq_false (by omega)
          refine wpAny_take (i := 9) (oi := ⟨_, _, _, _, _, _⟩) (v := ?_) rfl (by kernel_rfl) (by kernel_rfl) (by kernel_rfl) (fun _ _ _ h => h) (Or.inl ⟨by rfl, ?_⟩) ?_
          rotate_left
          · intro w; go_simp <;> with_reducible rfl
          simp only [Act.put, List.setIfInBounds_toArray, List.set_cons_zero, List.set_cons_succ]
          clear hbig
          refine wpAny_take (i := 10) (oi := ⟨_, _, _, _, _, _⟩) (v := ?_) rfl (by kernel_rfl) (by kernel_rfl) (by kernel_rfl) (fun _ _ _ h => h) (Or.inl ⟨by rfl, ?_⟩) ?_
          rotate_left
          · intro w; go_simp <;> with_reducible rfl
          simp only [Act.put, List.setIfInBounds_toArray, List.set_cons_zero, List.set_cons_succ]
          refine wpAny_done (by kernel_rfl) ?_ _
          go_wp2_with fail
          go_ret
          exact ⟨ret_eq (show Value.string (strN (decL q) ++ S) = _ by rw [HS.out, strN_snoc]), ((((Below.refl w.heap.size w).alloc (Nat.le_refl _) _).drew).trans (hb3.out.mono (by simp)))⟩
end Go.Proofs.YtghibofnfjnfcaaGreatDoor
