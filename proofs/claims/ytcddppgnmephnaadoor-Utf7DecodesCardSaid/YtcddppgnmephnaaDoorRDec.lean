/-
  The reference's Decode, at every text.
-/
import Derived.Test.YtcddppgnmephnaaDoorRefP
namespace Go.Proofs.YtcddppgnmephnaaDoor
set_option linter.unusedVariables false
open Go.RowKit Go.Lib

/-- a row of bytes that a call owns, as a text -/
theorem row_text (B : Nat) (v : Value) (o : List UInt8) (w : World) (h : w.ownsRowF B 5 1 v o.length (byteCells o)) : (convert 29 9 v).run Tryd.prog w = .ok (.string (strL o)) w := by
  rcases h.2 with ⟨rfl, h0⟩ | ⟨g, cap, cur, fz, rfl, _⟩
  · have ho : o = [] := List.eq_nil_of_length_eq_zero (by omega)
    subst ho
    exact run_convert_bytes_nil w 29 5 Tryd.underlying29 Tryd.underlying5 0 0 9 Tryd.underlying9
  · refine run_convert_bytes_back w 29 9 5 ⟨g, 0, none⟩ cap o Tryd.underlying29 Tryd.underlying5 Tryd.underlying9 fun j hj => ?_
    refine h.cells (g := g) rfl j _ ?_
    simp [byteCells, List.getElem?_eq_getElem hj]
theorem map_map_cons (X : Option (List UInt8)) (o : List UInt8) (c : UInt8) : (X.map (c :: ·)).map (o ++ ·) = X.map ((o ++ [c]) ++ ·) := by
  cases X <;> simp
theorem decV_bad (l : List UInt8) (h : readB l = none) : decV l = .tuple #[.string ⟨#[]⟩, .int .i64 9] := by
  unfold decV
  rw [← decS_ref, h]
  rfl

theorem farB_end (s : Rd) (cs : List UInt8) : farB s (45 :: cs) = some (s, cs) := by simp [farB]
theorem farB_nodig (s : Rd) (c : UInt8) (cs : List UInt8) (h : c ≠ 45) (hd : digVal c.toNat = none) : farB s (c :: cs) = none := by simp [farB, h, hd]
theorem farB_dead (s : Rd) (c : UInt8) (cs : List UInt8) (d : Nat) (h : c ≠ 45) (hd : digVal c.toNat = some d) (h2 : dS s d = none) : farB s (c :: cs) = none := by simp [farB, h, hd, h2]
theorem farB_step (s t : Rd) (c : UInt8) (cs : List UInt8) (d : Nat) (h : c ≠ 45) (hd : digVal c.toNat = some d) (h2 : dS s d = some t) : farB s (c :: cs) = farB t cs := by simp [farB, h, hd, h2]
theorem own_below {w w' : World} {B n : Nat} {v : Value} {xs : List Value} (h : w.ownsRowF B 5 1 v n xs) (hb : Below w.heap.size w w') : w'.ownsRowF B 5 1 v n xs := by
  refine ⟨h.1, ?_⟩
  rcases h.2 with hn | ⟨g, cap, cur, fz, hv, hbg, hg, rest⟩
  · exact .inl hn
  · have hgl : g < w.heap.size := (Array.getElem?_eq_some_iff.1 hg).1
    exact .inr ⟨g, cap, cur, fz, hv, hbg, (hb.block g hgl).trans hg, rest⟩
theorem arune (p : Nat) (v : Value) (Q : List UInt8) (r : Int) (hr0 : -2147483648 ≤ r) (hr1 : r ≤ 2147483647) (w : World) (hown : w.ownsRowF p 5 1 v Q.length (byteCells Q)) (hQ : Q.length ≤ 100000) (hp : p ≤ w.heap.size) :
    Calls Tryd.prog 26 #[v, .int .i32 r] w fun e w' => ∃ v', e = .returned v' ∧ w'.ownsRowF p 5 1 v' (Q ++ encodeRune r).length (byteCells (Q ++ encodeRune r)) ∧ Below p w w' := by
  refine (Tryd.utf8_AppendRune_own p v Q.length (byteCells Q) r hr0 hr1 w hown (by omega) hp).mono ?_
  rintro e w' ⟨v', rfl, h1, o, hg⟩
  rw [runeCells_length, byteCells_rune] at h1
  refine ⟨v', rfl, by rw [List.length_append]; exact h1, ?_⟩
  exact ((Below.refl p w).alloc hp o).grown hg (by simp; omega) (fun k hk => (hown.lt k hk).1)
theorem renc_str (l : List UInt8) (hl : l.length ≤ 100000) (w : World) (hT : Tabs w) : Calls Tryd.prog 11 #[.string (strL l)] w fun e w' => e = .returned (encV l) ∧ Below w.heap.size w w' :=
  renc_any (strL l) (by rw [Lib.size_eq]; exact hl) w hT
theorem decV_of (l o : List UInt8) (h : readB l = some o) : decV l = if validD o = true ∧ encS o = l then .tuple #[.string (strL o), .int .i64 0] else .tuple #[.string ⟨#[]⟩, .int .i64 9] := by
  unfold decV
  rw [← decS_ref, h]
  simp only
  split
  · rename_i hn
    split at hn
    · cases hn
    · rename_i hc
      rw [if_neg hc]
      rfl
  · rename_i n hn
    split at hn
    · rename_i hc
      cases hn
      rw [if_pos hc]
    · cases hn

set_option maxHeartbeats 8000000 in
set_option maxRecDepth 100000 in
theorem rdec_any (l : List UInt8) (hl : l.length ≤ 20000) (w : World) (hT : Tabs w) :
    Calls Tryd.prog 14 #[.string (strL l)] w fun e w' => e = .returned (decV l) ∧ Below w.heap.size w w' := by
  obtain ⟨i0, hi, hz0, hz1, hz2⟩ := info_parts info5
  obtain ⟨S, hS⟩ : ∃ S, strL l = S := ⟨_, rfl⟩
  obtain ⟨N, hN⟩ : ∃ N, S.size = N := ⟨_, rfl⟩
  have hNl : N = l.length := by rw [← hN, ← hS, strL_size]
  have hat : ∀ k (h : k < S.size) c cs, l.drop k = c :: cs → (S[k]'h).toNat = c.toNat := by
    subst hS
    intro k h c cs hd
    rw [str_at _ k h]
    have h2 : k < l.length := by rw [← strL_size]; exact h
    have h3 : l.drop k = l[k] :: l.drop (k + 1) := List.drop_eq_getElem_cons h2
    rw [h3] at hd
    obtain ⟨rfl, -⟩ := List.cons.inj hd
    show (l.getD k 0).toNat = _
    simp [List.getD, List.getElem?_eq_getElem h2]
  rw [hS]
  have HS := Lib.hid hS
  have HAT := Lib.hid hat
  have HT := Lib.hid hT
  have hNz : (N : Int) ≤ 20000 := by omega
  obtain ⟨p, hp⟩ : ∃ p, w.heap.size = p := ⟨_, rfl⟩
  have HL := Lib.hid (And.intro hl hNl)
  clear hS hat hT hl hNl
  go_enter Tryd.func14, Tryd.ntmps14
  go_wp2
  go_loopw [4, 5] (fun v i wr => ∃ (k : Nat) (o : List UInt8), i = .int .i64 (k : Int) ∧ wr.ownsRowF p 5 1 v o.length (byteCells o) ∧ Below p w wr ∧ p ≤ wr.heap.size ∧ readB l = (readB (l.drop k)).map (o ++ ·) ∧ o.length ≤ 4 * k ∧ k ≤ N) (fun _ i _ => N - (RowKit.intOf i).toNat)
  case atStart =>
    exact ⟨0, [], rfl, ⟨rfl, .inl ⟨rfl, rfl⟩⟩, Below.refl _ _, by omega, by simp, by simp, by omega⟩
  case round =>
    obtain ⟨k, o, rfl, hown, hbw, hsz, hrd, hol, hk⟩ := hrel
    have HB := Lib.hid hbw
    have hll := HL.out
    by_cases hkN : k < N
    · have hkz : (k : Int) < (N : Int) := by omega
      have hkS : k < S.size := by omega
      have hkl : k < l.length := by omega
      obtain ⟨c, hc⟩ : ∃ c, l[k] = c := ⟨_, rfl⟩
      have hd : l.drop k = c :: l.drop (k + 1) := by rw [List.drop_eq_getElem_cons hkl, hc]
      have hx := HAT.out k hkS c _ hd
      obtain ⟨x, hxe⟩ : ∃ x, c.toNat = x := ⟨_, rfl⟩
      rw [hxe] at hx
      rw [hd] at hrd
      have hc256 : x < 256 := by rw [← hxe]; exact UInt8.toNat_lt _
      clear hc hbw hll
      by_cases hlo : x < 32
      · have z1 : decide ((x : Int) < 32) = true := decide_eq_true (by omega)
        have HN := Lib.hid (decV_bad l (by rw [hrd, readB_bad c _ (by simp [wireB, hxe]; omega)]; rfl))
        clear hrd hown hd hxe
        go_wp2
        go_ret2
        rw [HN.out, hp]
        exact ⟨rfl, HB.out⟩
      · by_cases hhi : 126 < x
        · have z1 : decide ((x : Int) < 32) = false := decide_eq_false (by omega)
          have z2 : decide ((126 : Int) < (x : Int)) = true := decide_eq_true (by omega)
          have HN := Lib.hid (decV_bad l (by rw [hrd, readB_bad c _ (by simp [wireB, hxe]; omega)]; rfl))
          clear hrd hown hd hxe
          go_wp2
          go_ret2
          rw [HN.out, hp]
          exact ⟨rfl, HB.out⟩
        · have z1 : decide ((x : Int) < 32) = false := decide_eq_false (by omega)
          have z2 : decide ((126 : Int) < (x : Int)) = false := decide_eq_false (by omega)
          have hw : wireB c = true := by simp [wireB, hxe]; omega
          by_cases h38 : c = 38
          · obtain ⟨m, hm⟩ : ∃ m, k + 1 = m := ⟨_, rfl⟩
            have z3 : ((x : Int) != 38) = false := by
              have : x = 38 := by rw [← hxe, h38]; rfl
              simp; omega
            have hkm : (k : Int) + 1 = (m : Int) := by omega
            rw [h38] at hrd
            rw [hm] at hrd
            clear hd hxe h38 hw hlo hhi
            by_cases hmN : m < N
            · have hmz : (m : Int) < (N : Int) := by omega
              have hmS : m < S.size := by omega
              have hml : m < l.length := by have := HL.out; omega
              obtain ⟨c2, hc2⟩ : ∃ c, l[m] = c := ⟨_, rfl⟩
              have hd2 : l.drop m = c2 :: l.drop (m + 1) := by rw [List.drop_eq_getElem_cons hml, hc2]
              have hy := HAT.out m hmS c2 _ hd2
              obtain ⟨y, hye⟩ : ∃ y, c2.toNat = y := ⟨_, rfl⟩
              rw [hye] at hy
              by_cases h45 : c2 = 45
              · have z4 : ((y : Int) == 45) = true := by
                  have : y = 45 := by rw [← hye, h45]; rfl
                  simp; omega
                have HR := Lib.hid (show readB l = (readB (l.drop (m + 1))).map ((o ++ [38]) ++ ·) by
                  rw [hrd, hd2, readB_and _ (by rw [h45]; rfl), map_map_cons]; rfl)
                clear hrd hd2 hc2 hye h45 hm
                go_wp2_with (at_builtin; refine wpList_append_ownF _ rfl _ _ 29 rfl p 5 i0 (.int .u8 0) 1 1 Tryd.underlying29 hi hz0 hz1 hz2 rfl (by decide) _ _ _ rfl (hown.alloc _) ⟨wr.heap.size, 0, none⟩ 1 1 [.int .u8 38] rfl rfl ?c1 ?c2 ?c3 ?c4 ?c5 ?_)
                case c1 =>
                  intro j u hj
                  match j, hj with
                  | 0, hj => simp at hj; subst hj; simp [Addr.add]
                case c2 => intro u hu; simp at hu; subst hu; rfl
                case c3 => unfold maxLen; omega
                case c4 => omega
                case c5 => simp; omega
                intro v' w2 hown' hgrow _
                have hbn : Below p w w2 := HB.out.trans (((Below.refl p wr).alloc (by omega) _).grown hgrow (by simp; omega) (fun k hk => (hown.lt k hk).1))
                have hbc : byteCells o ++ [.int .u8 38] = byteCells (o ++ [38]) := by rw [byteCells_append]; rfl
                rw [hbc] at hown'
                have hsz2 : p ≤ w2.heap.size := Nat.le_trans hsz (by have := hgrow.size; simp at this; omega)
                have HW := Lib.hid (And.intro hown' hbn)
                clear hown' hgrow hown hbn hbc
                go_wp2
                go_roundw
                case rel =>
                  refine ⟨m + 1, o ++ [38], by simp, by simpa using HW.out.1, HW.out.2, hsz2, HR.out, by simp; omega, by omega⟩
                case measure => simp [RowKit.intOf]; omega
              · have z4 : ((y : Int) == 45) = false := by
                  have : y ≠ 45 := fun e => h45 (UInt8.toNat_inj.1 (by rw [hye, e]; rfl))
                  simp; omega
                have hrf : readB l = contF readB o (farB r0 (l.drop m)) := by
                  rw [hrd, readB_far _ (by rw [hd2]; simp; exact h45), contF_map]
                have HR := Lib.hid hrf
                have HO := Lib.hid hown
                have hkm2 : k < m := by omega
                have hol2 : o.length ≤ 4 * m := by omega
                clear hrd hd2 hc2 hye h45 hm hrf hown hol hml
                go_upto_region 14 with (fail)
                go_loopw [4, 5, 6, 7, 8] (fun v2 i a b f wr2 => ∃ (j : Nat) (s : Rd), i = .int .i64 (j : Int) ∧ a = .int .u32 s.wait ∧ b = .int .i64 s.waiting ∧ f = .int .u32 s.first ∧ wr2.ownsRowF p 5 1 v2 (o ++ s.out).length (byteCells (o ++ s.out)) ∧ Below p w wr2 ∧ p ≤ wr2.heap.size ∧ RdG s ∧ readB l = contF readB o (farB s (l.drop j)) ∧ (o ++ s.out).length ≤ 4 * j ∧ k < j ∧ j ≤ N) (fun _ i _ _ _ _ => N - (RowKit.intOf i).toNat)
                case atStart => exact ⟨m, r0, rfl, rfl, rfl, rfl, by simpa [r0] using HO.out, HB.out, hsz, rdg0, HR.out, by simpa [r0] using hol2, by omega, by omega⟩
                case round =>
                  obtain ⟨j, ⟨q, f, a, b⟩, rfl, rfl, rfl, rfl, hown2, hbw2, hsz2, hg, hrd2, hol2, hkj, hj⟩ := hrel
                  simp only at hown2 hol2
                  obtain ⟨hg1, hg2, hg3⟩ := hg
                  simp only at hg1 hg2 hg3
                  have HB2 := Lib.hid hbw2
                  have HO2 := Lib.hid hown2
                  have hol3 : (o ++ q).length ≤ 80000 := by omega
                  clear hbw2 hown2 hx hmz hmS hy z4 z3 z2 z1 hkm hkz
                  by_cases hjN : j < N
                  · have hjz : (j : Int) < (N : Int) := by omega
                    have hjS : j < S.size := by omega
                    have hjl : j < l.length := by have := HL.out; omega
                    obtain ⟨c3, hc3⟩ : ∃ c, l[j] = c := ⟨_, rfl⟩
                    have hd2 : l.drop j = c3 :: l.drop (j + 1) := by rw [List.drop_eq_getElem_cons hjl, hc3]
                    have hy := HAT.out j hjS c3 _ hd2
                    obtain ⟨g, hye⟩ : ∃ y, c3.toNat = y := ⟨_, rfl⟩
                    rw [hye] at hy
                    have hy256 : g < 256 := by rw [← hye]; exact UInt8.toNat_lt _
                    rw [hd2] at hrd2
                    clear hd2 hc3 hjl
                    by_cases h45 : c3 = 45
                    · have z4 : ((g : Int) != 45) = false := by
                        have : g = 45 := by rw [← hye, h45]; rfl
                        simp; omega
                      have z5 : ((j : Int) == (N : Int)) = false := by simp; omega
                      rw [h45, farB_end] at hrd2
                      simp only [contF] at hrd2
                      clear hye h45
                      by_cases hf0 : f = 0
                      · have z0 : ((f : Int) != 0) = false := by simp; omega
                        rw [if_pos hf0] at hrd2
                        have HR2 := Lib.hid hrd2
                        clear hrd2
                        go_wp2
                        go_roundw
                        case rel => exact ⟨j + 1, o ++ q, by simp, HO2.out, HB2.out, hsz2, HR2.out, by omega, by omega⟩
                        case measure => simp [RowKit.intOf]; omega
                      · have z0 : ((f : Int) != 0) = true := by simp; omega
                        rw [if_neg hf0] at hrd2
                        have HN := Lib.hid (decV_bad l hrd2)
                        clear hrd2
                        go_wp2
                        go_ret2
                        exact ⟨by rw [HN.out]; rfl, by first | exact HB2.out | (rw [hp]; exact HB2.out)⟩
                    · have z4 : ((g : Int) != 45) = true := by
                        have : g ≠ 45 := fun e => h45 (UInt8.toNat_inj.1 (by rw [hye, e]; rfl))
                        simp; omega
                      have hval := rval_any g hy256 wr
                      unfold idxV at hval
                      cases hdig : digVal g with
                      | none =>
                        rw [hdig] at hval
                        have HN := Lib.hid (decV_bad l (by rw [hrd2, farB_nodig _ c3 _ h45 (by rw [hye]; exact hdig)]; rfl))
                        clear hrd2 hdig hye h45
                        go_wp2_with (go_at_call 25; refine hval.mono ?_; rintro e w4 ⟨rfl, rfl⟩)
                        go_ret2
                        exact ⟨by rw [HN.out]; rfl, by first | exact HB2.out | (rw [hp]; exact HB2.out)⟩
                      | some d =>
                        rw [hdig] at hval
                        have hd64 := digVal_lt g d hdig
                        have hd0 : (d : Int) ≤ 63 := by omega
                        have hdig2 : digVal c3.toNat = some d := by rw [hye]; exact hdig
                        have HST := Lib.hid (fun t (h : dS ⟨q, f, a, b⟩ d = some t) => hrd2.trans (congrArg (contF readB o) (farB_step _ t c3 (l.drop (j + 1)) d h45 hdig2 h)))
                        have HDE := Lib.hid (fun (h : dS ⟨q, f, a, b⟩ d = none) => decV_bad l (hrd2.trans (congrArg (contF readB o) (farB_dead _ c3 (l.drop (j + 1)) d h45 hdig2 h))))
                        have hg2' : a < 65536 := Nat.lt_of_lt_of_le hg2 (by
                          have := Nat.pow_le_pow_right (n := 2) (by decide) (show b ≤ 16 by omega)
                          simpa using this)
                        obtain ⟨V, hV⟩ : ∃ V, a * 64 + d = V := ⟨_, rfl⟩
                        have hor := or64 a d hg2' hd64
                        rw [hV] at hor
                        obtain ⟨t, ht⟩ : ∃ c, b + 6 = c := ⟨_, rfl⟩
                        have hbt : (b : Int) + 6 = (t : Int) := by omega
                        clear hrd2 hdig hdig2 hye h45
                        by_cases hsm : b + 6 < 16
                        · have ht16 : (t : Int) < 16 := by omega
                          have HG := Lib.hid (show RdG ⟨q, f, V, t⟩ from ⟨by simp only; omega, by
                            simp only
                            rw [← ht, Nat.pow_add, show 2 ^ 6 = 64 from rfl, ← hV]
                            omega, hg3⟩)
                          have HS3 := HST.out _ (dS_small q f a b d hsm)
                          rw [hV, ht] at HS3
                          have HS4 := Lib.hid HS3
                          clear HS3 HST HDE hg1 hg2 hg3 hV ht hsm
                          go_wp2_with (go_at_call 25; refine hval.mono ?_; rintro e w4 ⟨rfl, rfl⟩)
                          go_roundw
                          case rel =>
                            refine ⟨j + 1, ⟨q, f, V, t⟩, by simp, rfl, rfl, rfl, HO2.out, HB2.out, hsz2, HG.out, HS4.out, (show (o ++ q).length ≤ 4 * (j + 1) by omega), by omega, by omega⟩
                          case measure => simp [RowKit.intOf]; omega
                        · obtain ⟨h, hh⟩ : ∃ m, t - 16 = m := ⟨_, rfl⟩
                          have hth : (t : Int) - 16 = (h : Int) := by omega
                          have ht16 : ¬ ((t : Int) < 16) := by omega
                          obtain ⟨v, hv⟩ : ∃ v, V / 2 ^ h = v := ⟨_, rfl⟩
                          obtain ⟨X, hX⟩ : ∃ X, V % 2 ^ h = X := ⟨_, rfl⟩
                          have hh6 : h < 6 := by omega
                          have hpm : 2 ^ h ≤ 32 := by
                            have := Nat.pow_le_pow_right (n := 2) (by decide) (show h ≤ 5 by omega)
                            simpa using this
                          have hone : 1 ≤ 2 ^ h := Nat.one_le_two_pow
                          have e1 : (2 : Int) ^ h = ((2 ^ h : Nat) : Int) := by simp
                          have hw1 : IntKind.u32.wrap ((2 : Int) ^ h) = (2 : Int) ^ h := IntWalk.u32_in _ (by rw [e1]; omega)
                          have hw2 : IntKind.u32.wrap ((2 : Int) ^ h - 1) = (2 : Int) ^ h - 1 := IntWalk.u32_in _ (by rw [e1]; omega)
                          have hVlt : V < 4194304 := by omega
                          have key : bits .and .u32 (V : Int) ((2 : Int) ^ h - 1) = (X : Int) := by
                            rw [show (2 : Int) ^ h - 1 = ((2 ^ h - 1 : Nat) : Int) by rw [e1]; omega, u32_and_nat V _ (by omega) (by omega), Nat.and_two_pow_sub_one_eq_mod, hX]
                          have hvz : (V : Int) / 2 ^ h = (v : Int) := by rw [e1, ← hv]; omega
                          have hV16 : V < 2 ^ h * 65536 := by
                            have e2 : 2 ^ h * 65536 = 2 ^ b * 64 := by
                              rw [show 65536 = 2 ^ 16 from rfl, show 64 = 2 ^ 6 from rfl, ← Nat.pow_add, ← Nat.pow_add]
                              congr 1
                              omega
                            rw [e2, ← hV]
                            omega
                          have hv16 : v < 65536 := by
                            rw [← hv]
                            exact Nat.div_lt_of_lt_mul hV16
                          have hmask : bits .and .u32 (v : Int) 65535 = (v : Int) := by
                            rw [show (65535 : Int) = ((65535 : Nat) : Int) from rfl, u32_and_nat v 65535 (by omega) (by decide)]
                            congr 1
                            have := Nat.and_two_pow_sub_one_eq_mod v 16
                            rw [show 2 ^ 16 - 1 = 65535 from rfl] at this
                            rw [this]
                            exact Nat.mod_eq_of_lt hv16
                          have hX2 : X < 2 ^ h := by rw [← hX]; exact Nat.mod_lt _ (by omega)
                          have hds := dS_unit q f a b d V h v X (by omega) hV (by omega) hv hX
                          have HDS := Lib.hid hds
                          have HG := Lib.hid (And.intro hh6 hX2)
                          clear hds hv hX hV hV16 hpm hone e1 hX2 ht hh hsm hg1 hg2
                          go_upto_region 25 with (go_at_call 25; refine hval.mono ?_; rintro e w4 ⟨rfl, rfl⟩)
                          clear hor hbt hth ht16 hw1 hw2 key hvz hd0 hval hmask
                          rcases uS_cases f v hg3 with ⟨c1, c2⟩ | ⟨c1, c2⟩ | ⟨c1, c2, c3⟩ | ⟨c1, c2⟩ | ⟨c1, c2, c3⟩ | ⟨c1, c2, c3⟩ | ⟨c1, c2⟩
                          · have z0 : ((f : Int) != 0) = true := by simp; omega
                            have z1 : decide ((56320 : Int) ≤ (v : Int)) = false := decide_eq_false (by omega)
                            have HN := Lib.hid (HDE.out (by rw [HDS.out, uS_A q f v c1 (.inl c2)]))
                            go_wp2
                            go_ret2
                            exact ⟨by rw [HN.out]; rfl, by first | exact HB2.out | (rw [hp]; exact HB2.out)⟩
                          · have z0 : ((f : Int) != 0) = true := by simp; omega
                            have z1 : decide ((56320 : Int) ≤ (v : Int)) = true := decide_eq_true (by omega)
                            have z2 : decide ((v : Int) ≤ 57343) = false := decide_eq_false (by omega)
                            have HN := Lib.hid (HDE.out (by rw [HDS.out, uS_A q f v c1 (.inr c2)]))
                            go_wp2
                            go_ret2
                            exact ⟨by rw [HN.out]; rfl, by first | exact HB2.out | (rw [hp]; exact HB2.out)⟩
                          · have z0 : ((f : Int) != 0) = true := by simp; omega
                            have z1 : decide ((56320 : Int) ≤ (v : Int)) = true := decide_eq_true (by omega)
                            have z2 : decide ((v : Int) ≤ 57343) = true := decide_eq_true (by omega)
                            obtain ⟨y1, hy1⟩ : ∃ y, f - 55296 = y := ⟨_, rfl⟩
                            obtain ⟨y2, hy2⟩ : ∃ y, v - 56320 = y := ⟨_, rfl⟩
                            obtain ⟨y3, hy3⟩ : ∃ y, 65536 + y1 * 1024 = y := ⟨_, rfl⟩
                            obtain ⟨y4, hy4⟩ : ∃ y, y3 + y2 = y := ⟨_, rfl⟩
                            have hy5 : y1 * 1024 + y2 + 65536 = y4 := by omega
                            have k1 : (f : Int) - 55296 = (y1 : Int) := by omega
                            have k2 : (v : Int) - 56320 = (y2 : Int) := by omega
                            have k3 : (65536 : Int) + (y1 : Int) * 1024 = (y3 : Int) := by omega
                            have k4 : (y3 : Int) + (y2 : Int) = (y4 : Int) := by omega
                            have hy1l : y1 < 1024 := by omega
                            have hy2l : y2 < 1024 := by omega
                            have hy3l : y3 < 1114112 := by omega
                            have hy4l : y4 < 1114112 := by omega
                            have har := arune p u4 (o ++ q) (y4 : Int) (by omega) (by omega) w4 HO2.out (by omega) hsz2
                            have HS3 := Lib.hid (HST.out _ (by rw [HDS.out, uS_B q f v c1 ⟨c2, c3⟩, hy1, hy2, hy5]))
                            clear HST HDE HDS hy1 hy2 hy3 hy4 hy5
                            go_wp2_with (go_at_call 26; refine har.mono ?_; rintro e w6 ⟨v4, rfl, h4, hb4⟩; have hs4 := hb4.size; have H4 := Lib.hid (And.intro h4 (HB2.out.trans hb4)); clear h4 hb4)
                            go_roundw
                            case rel =>
                              refine ⟨j + 1, ⟨q ++ encodeRune (y4 : Int), 0, X, h⟩, by simp, rfl, rfl, rfl, by simp only; rw [← List.append_assoc]; exact H4.out.1, H4.out.2, by omega, ⟨by simp only; omega, HG.out.2, .inl rfl⟩, HS3.out, ?_, by omega, by omega⟩
                              have := encodeRune_len (y4 : Int)
                              simp only [List.length_append] at hol2 ⊢
                              omega
                            case measure => simp [RowKit.intOf]; omega
                          · subst c1
                            have z1 : decide ((56320 : Int) ≤ (v : Int)) = false := decide_eq_false (by omega)
                            have z2 : decide ((55296 : Int) ≤ (v : Int)) = false := decide_eq_false (by omega)
                            have har := arune p u4 (o ++ q) (v : Int) (by omega) (by omega) w4 HO2.out (by omega) hsz2
                            have HS3 := Lib.hid (HST.out _ (by rw [HDS.out, uS_E q v (.inl c2)]))
                            clear HST HDE HDS
                            go_wp2_with (go_at_call 26; refine har.mono ?_; rintro e w6 ⟨v4, rfl, h4, hb4⟩; have hs4 := hb4.size; have H4 := Lib.hid (And.intro h4 (HB2.out.trans hb4)); clear h4 hb4)
                            go_roundw
                            case rel =>
                              refine ⟨j + 1, ⟨q ++ encodeRune (v : Int), 0, X, h⟩, by simp, rfl, rfl, rfl, by simp only; rw [← List.append_assoc]; exact H4.out.1, H4.out.2, by omega, ⟨by simp only; omega, HG.out.2, .inl rfl⟩, HS3.out, ?_, by omega, by omega⟩
                              have := encodeRune_len (v : Int)
                              simp only [List.length_append] at hol2 ⊢
                              omega
                            case measure => simp [RowKit.intOf]; omega
                          · subst c1
                            have z1 : decide ((56320 : Int) ≤ (v : Int)) = false := decide_eq_false (by omega)
                            have z2 : decide ((55296 : Int) ≤ (v : Int)) = true := decide_eq_true (by omega)
                            have z3 : decide ((v : Int) ≤ 56319) = true := decide_eq_true (by omega)
                            have HS3 := Lib.hid (HST.out _ (by rw [HDS.out, uS_C q v ⟨c2, c3⟩]))
                            clear HST HDE HDS
                            go_wp2
                            go_roundw
                            case rel =>
                              exact ⟨j + 1, ⟨q, v, X, h⟩, by simp, rfl, rfl, rfl, HO2.out, HB2.out, hsz2, ⟨by simp only; omega, HG.out.2, .inr ⟨c2, c3⟩⟩, HS3.out, (show (o ++ q).length ≤ 4 * (j + 1) by omega), by omega, by omega⟩
                            case measure => simp [RowKit.intOf]; omega
                          · subst c1
                            have z1 : decide ((56320 : Int) ≤ (v : Int)) = true := decide_eq_true (by omega)
                            have z2 : decide ((v : Int) ≤ 57343) = true := decide_eq_true (by omega)
                            have HN := Lib.hid (HDE.out (by rw [HDS.out, uS_D q v ⟨c2, c3⟩]))
                            go_wp2
                            go_ret2
                            exact ⟨by rw [HN.out]; rfl, by first | exact HB2.out | (rw [hp]; exact HB2.out)⟩
                          · subst c1
                            have z1 : decide ((56320 : Int) ≤ (v : Int)) = true := decide_eq_true (by omega)
                            have z2 : decide ((v : Int) ≤ 57343) = false := decide_eq_false (by omega)
                            have z3 : decide ((55296 : Int) ≤ (v : Int)) = true := decide_eq_true (by omega)
                            have z4 : decide ((v : Int) ≤ 56319) = false := decide_eq_false (by omega)
                            have har := arune p u4 (o ++ q) (v : Int) (by omega) (by omega) w4 HO2.out (by omega) hsz2
                            have HS3 := Lib.hid (HST.out _ (by rw [HDS.out, uS_E q v (.inr c2)]))
                            clear HST HDE HDS
                            go_wp2_with (go_at_call 26; refine har.mono ?_; rintro e w6 ⟨v4, rfl, h4, hb4⟩; have hs4 := hb4.size; have H4 := Lib.hid (And.intro h4 (HB2.out.trans hb4)); clear h4 hb4)
                            go_roundw
                            case rel =>
                              refine ⟨j + 1, ⟨q ++ encodeRune (v : Int), 0, X, h⟩, by simp, rfl, rfl, rfl, by simp only; rw [← List.append_assoc]; exact H4.out.1, H4.out.2, by omega, ⟨by simp only; omega, HG.out.2, .inl rfl⟩, HS3.out, ?_, by omega, by omega⟩
                              have := encodeRune_len (v : Int)
                              simp only [List.length_append] at hol2 ⊢
                              omega
                            case measure => simp [RowKit.intOf]; omega
                  · have hjz : ¬ ((j : Int) < (N : Int)) := by omega
                    have z5 : ((j : Int) == (N : Int)) = true := by simp; omega
                    have hd2 : l.drop j = [] := List.drop_eq_nil_of_le (by have := HL.out; omega)
                    have HN := Lib.hid (decV_bad l (by rw [hrd2, hd2]; rfl))
                    clear hrd2 hd2
                    go_wp2
                    go_ret2
                    exact ⟨by rw [HN.out]; rfl, by first | exact HB2.out | (rw [hp]; exact HB2.out)⟩
            · have hmz : ¬ ((m : Int) < (N : Int)) := by omega
              have hmz2 : ((m : Int) == (N : Int)) = true := by simp; omega
              have hd2 : l.drop m = [] := List.drop_eq_nil_of_le (by have := HL.out; omega)
              have HN := Lib.hid (decV_bad l (by rw [hrd, hd2, readB_far _ (by simp)]; rfl))
              clear hrd hown hd2 hm
              go_upto_region 14 with (fail)
              go_loopw [5] (fun i wr2 => i = .int .i64 (m : Int) ∧ wr2 = wr) (fun _ _ => 0)
              case atStart => exact ⟨rfl, rfl⟩
              case round =>
                obtain ⟨rfl, rfl⟩ := hrel
                go_wp2
                go_ret2
                rw [HN.out, hp]
                exact ⟨rfl, HB.out⟩
          · have z3 : ((x : Int) != 38) = true := by
              have : x ≠ 38 := fun e => h38 (UInt8.toNat_inj.1 (by rw [hxe, e]; rfl))
              simp; omega
            have HR := Lib.hid (show readB l = (readB (l.drop (k + 1))).map ((o ++ [c]) ++ ·) by rw [hrd, readB_plain c _ hw h38, map_map_cons])
            have HX := Lib.hid hxe
            clear hrd hd hxe h38 hw hlo hhi
            go_wp2_with (at_builtin; refine wpList_append_ownF _ rfl _ _ 29 rfl p 5 i0 (.int .u8 0) 1 1 Tryd.underlying29 hi hz0 hz1 hz2 rfl (by decide) _ _ _ rfl (hown.alloc _) ⟨wr.heap.size, 0, none⟩ 1 1 [.int .u8 (x : Int)] rfl rfl ?c1 ?c2 ?c3 ?c4 ?c5 ?_)
            case c1 =>
              intro j u hj
              match j, hj with
              | 0, hj => simp at hj; subst hj; simp [Addr.add]
            case c2 => intro u hu; simp at hu; subst hu; rfl
            case c3 => unfold maxLen; omega
            case c4 => omega
            case c5 => simp; omega
            intro v' w2 hown' hgrow _
            have hbn : Below p w w2 := HB.out.trans (((Below.refl p wr).alloc (by omega) _).grown hgrow (by simp; omega) (fun k hk => (hown.lt k hk).1))
            have hbc : byteCells o ++ [.int .u8 (x : Int)] = byteCells (o ++ [c]) := by rw [byteCells_append, ← HX.out]; rfl
            rw [hbc] at hown'
            have hsz2 : p ≤ w2.heap.size := Nat.le_trans hsz (by have := hgrow.size; simp at this; omega)
            have HW := Lib.hid (And.intro hown' hbn)
            clear hown' hgrow hown hbn hbc
            go_wp2
            go_roundw
            case rel =>
              refine ⟨k + 1, o ++ [c], by simp, by simpa using HW.out.1, HW.out.2, hsz2, HR.out, by simp; omega, by omega⟩
            case measure => simp [RowKit.intOf]; omega
    · have hkz : ¬ ((k : Int) < (N : Int)) := by omega
      have hd : l.drop k = [] := List.drop_eq_nil_of_le (by omega)
      rw [hd, readB_nil] at hrd
      have hro : readB l = some o := by rw [hrd]; simp
      have hdv := decV_of l o hro
      have hol2 : o.length ≤ 80000 := by omega
      have hcv := row_text p _ o wr hown
      have hT1 := HT.out.below (hbw.mono (by omega)) HT.out.size
      have hen := renc_str o (by omega) wr (hT1)
      have HO := Lib.hid hown
      obtain ⟨O, hO⟩ : ∃ O, strL o = O := ⟨_, rfl⟩
      rw [hO] at hcv hen
      clear hrd hro hown hd hbw hT1 hll
      cases hv : validD o with
      | false =>
        rw [encV_no o hv] at hen
        have HN := Lib.hid (show decV l = .tuple #[.string ⟨#[]⟩, .int .i64 9] by rw [hdv, if_neg (by rw [hv]; simp)])
        clear hdv hv hO
        go_wp2_with (go_at_call 11; refine hen.mono ?_; rintro e w5 ⟨rfl, hb5⟩; have HB5 := Lib.hid hb5; clear hb5)
        go_ret2
        rw [HN.out, hp]
        exact ⟨rfl, HB.out.trans (HB5.out.mono (by omega))⟩
      | true =>
        rw [encV_yes o hv] at hen
        by_cases hq : encS o = l
        · have HN := Lib.hid (show decV l = .tuple #[.string O, .int .i64 0] by rw [hdv, if_pos ⟨hv, hq⟩, hO])
          rw [hq, HS.out] at hen
          have HOO := Lib.hid hO
          clear hdv hv hO hq
          go_wp2_with (go_at_call 11; refine hen.mono ?_; rintro e w5 ⟨rfl, hb5⟩; have hcv5 := row_text p _ o w5 (own_below HO.out hb5); rw [HOO.out] at hcv5; have HB5 := Lib.hid hb5; clear hb5)
          go_ret2
          rw [HN.out, hp]
          exact ⟨rfl, HB.out.trans (HB5.out.mono (by omega))⟩
        · have HN := Lib.hid (show decV l = .tuple #[.string ⟨#[]⟩, .int .i64 9] by rw [hdv, if_neg (fun h => hq h.2)])
          have hbne : ((strL (encS o)).toList == S.toList) = false := by rw [← HS.out, strL_toList, strL_toList]; exact beq_eq_false_iff_ne.2 hq
          obtain ⟨M, hM⟩ : ∃ M, strL (encS o) = M := ⟨_, rfl⟩
          rw [hM] at hen hbne
          clear hdv hv hO hq hM
          go_wp2_with (go_at_call 11; refine hen.mono ?_; rintro e w5 ⟨rfl, hb5⟩; have HB5 := Lib.hid hb5; clear hb5)
          go_ret2
          rw [HN.out, hp]
          exact ⟨rfl, HB.out.trans (HB5.out.mono (by omega))⟩
end Go.Proofs.YtcddppgnmephnaaDoor
