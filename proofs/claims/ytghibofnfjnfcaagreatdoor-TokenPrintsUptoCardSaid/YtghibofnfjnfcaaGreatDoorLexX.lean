/-
  The lexer's methods that read a literal's size.
-/
import Derived.Test.YtghibofnfjnfcaaGreatDoorLexW
import Derived.Test.YtghibofnfjnfcaaGreatDoorShelf
namespace Go.Proofs.YtghibofnfjnfcaaGreatDoor
set_option linter.unusedVariables false
open Go.RowKit

theorem strN_zero {l : List Nat} (hl : ∀ n ∈ l, n < 256) : strN l = ⟨#[48]⟩ ↔ l = [48] := by
  constructor
  · intro h
    have h2 : (strN l).toList = (strN [48]).toList := by rw [h]; rfl
    rw [strN_toList, strN_toList] at h2
    exact strN_inj hl (by decide) h2
  · intro h; subst h; rfl

/-- what was the library's variable when the call began -/
def RngV (w : World) : Prop := ∃ tp q, w.cell? ⟨5, 0, none⟩ = some (.iface tp q)

theorem foldl_ge (l : List Nat) : ∀ a, a ≤ l.foldl (fun a d => a * 10 + (d - 48)) a := by
  induction l with
  | nil => intro a; exact Nat.le_refl _
  | cons d l ih => intro a; rw [List.foldl_cons]; exact Nat.le_trans (by omega) (ih _)
/-- what digits say, as the library reads them -/
theorem parse_dig (l : List Nat) (hl : ∀ n ∈ l, 48 ≤ n ∧ n ≤ 57) : ∀ a, Lib.parseUint10 a (l.map UInt8.ofNat) = if l.foldl (fun a d => a * 10 + (d - 48)) a < 18446744073709551616 ∨ l = [] then .ok (l.foldl (fun a d => a * 10 + (d - 48)) a) else .range := by
  induction l with
  | nil => intro a; simp [Lib.parseUint10]
  | cons d l ih =>
    intro a
    obtain ⟨h1, h2⟩ := hl d (by simp)
    have ih := ih (fun n hn => hl n (by simp [hn]))
    have e : (UInt8.ofNat d).toNat = d := by simp; omega
    have hge := foldl_ge l (a * 10 + (d - 48))
    rw [List.map_cons, Lib.parseUint10, e, if_pos ⟨h1, h2⟩, List.foldl_cons]
    by_cases h3 : 1844674407370955162 ≤ a
    · rw [if_pos h3, if_neg (by rintro (h | h); · omega
                                · cases h)]
    · rw [if_neg h3]
      by_cases h4 : 18446744073709551616 ≤ a * 10 + (d - 48)
      · rw [if_pos h4, if_neg (by rintro (h | h); · omega
                                  · cases h)]
      · rw [if_neg h4, ih]
        by_cases h5 : l = []
        · subst h5
          rw [if_pos (.inr rfl), if_pos (.inl (by simp; omega))]
        · by_cases h6 : l.foldl (fun a d => a * 10 + (d - 48)) (a * 10 + (d - 48)) < 18446744073709551616
          · rw [if_pos (.inl h6), if_pos (.inl h6)]
          · rw [if_neg (by rintro (h | h); · exact h6 h
                           · exact h5 h), if_neg (by rintro (h | h); · exact h6 h
                                                     · cases h)]
theorem atoi_dig (l : List Nat) (hl : ∀ n ∈ l, 48 ≤ n ∧ n ≤ 57) (hne : l ≠ []) : Lib.atoiAll (strN l).data.toList = if valN l < 9223372036854775808 then .ok (valN l : Int) else .range := by
  obtain ⟨c, r, rfl⟩ : ∃ c r, l = c :: r := by cases l with
    | nil => exact absurd rfl hne
    | cons c r => exact ⟨c, r, rfl⟩
  obtain ⟨h1, h2⟩ := hl c (by simp)
  have e : (UInt8.ofNat c).toNat = c := by simp; omega
  have ed : (strN (c :: r)).data.toList = UInt8.ofNat c :: r.map UInt8.ofNat := by simp [strN]
  have hp := parse_dig (c :: r) hl 0
  rw [List.map_cons] at hp
  rw [ed]
  unfold Lib.atoiAll
  simp only [e]
  rw [if_neg (by omega)]
  unfold Lib.parseMag
  rw [if_neg (by simp), hp]
  have ev : (c :: r).foldl (fun a d => a * 10 + (d - 48)) 0 = valN (c :: r) := rfl
  rw [ev]
  by_cases h3 : valN (c :: r) < 18446744073709551616
  · rw [if_pos (.inl h3)]
    simp only
    by_cases h4 : valN (c :: r) < 9223372036854775808
    · rw [if_neg (by omega), if_neg (by omega), if_pos h4, if_neg (by omega)]
    · rw [if_pos (by omega), if_neg h4]
  · rw [if_neg (by rintro (h | h); · exact h3 h
                   · cases h), if_neg (by omega)]

/-- Atoi of digits -/
theorem atoi_any (l : List Nat) (hl : ∀ n ∈ l, 48 ≤ n ∧ n ≤ 57) (hne : l ≠ []) (hlen : l.length ≤ 100000000) (w : World) (hv : RngV w) : Calls Tryz.prog 76 #[.string (strN l)] w fun e w' => Below w.heap.size w w' ∧ ((valN l ≤ 9223372036854775807 ∧ e = .returned (.tuple #[.int .i64 (valN l : Nat), .nilIface])) ∨ (9223372036854775807 < valN l ∧ ∃ v N, e = .returned (.tuple #[.int .i64 v, .iface 154 (.pointer (some ⟨N, 0, none⟩))]))) := by
  have hs : (strN l).size = l.length := by simp [strN, ByteArray.size]
  have ha := atoi_dig l hl hne
  by_cases h : valN l < 9223372036854775808
  · rw [if_pos h] at ha
    refine (Tryz.strconv_Atoi_ok (strN l) (by omega) _ ha w).mono ?_
    rintro e w' ⟨rfl, hw⟩
    refine ⟨?_, .inl ⟨by omega, rfl⟩⟩
    rcases hw with rfl | ⟨t, rfl⟩
    · exact Below.refl _ _
    · exact Lib.bytesWorld_below _ _ _
  · rw [if_neg h] at ha
    obtain ⟨tp, q, hv⟩ := hv
    refine (Tryz.strconv_Atoi_range (strN l) (by omega) ha _ w hv (.inr ⟨tp, q, rfl⟩)).mono ?_
    rintro e w' ⟨N, rfl, h1, h2, h3⟩
    exact ⟨h3, .inr ⟨by omega, _, N, rfl⟩⟩

set_option maxRecDepth 100000 in
set_option maxHeartbeats 4000000 in
theorem size_any (p : Nat) (o t : Value) (s : LS) (c : Nat) (hc : c < 256) (hfit : ∀ n ∈ s.text, n < 256) (hol : s.out.length + 1 ≤ 100000000) (htl : s.text.length ≤ 100000000) (w : World) (k : LexS w p o t s 0) : Calls Tryz.prog 44 #[.pointer (some ⟨p, 0, none⟩), .int .u8 (c : Int)] w (LexIs w p o t (sizS s c)) := by
  have HK := Lib.hid (LexK.start k)
  have HKF := Lib.hid hfit
  clear k hfit
  by_cases hd : 48 ≤ c ∧ c ≤ 57
  · obtain ⟨hd1, hd2⟩ := hd
    have g1 : (48 : Int) ≤ (c : Int) := by omega
    have g2 : (c : Int) ≤ 57 := by omega
    by_cases hz : s.text = [48]
    · have e : sizS s c = (s, 9) := by unfold sizS; rw [if_neg (fun h => h.2.2 hz), if_neg (fun h => by omega)]
      rw [e]
      have hz2 : strN s.text = ⟨#[48]⟩ := by rw [hz]; rfl
      have g3 : ¬ (c : Int) = 125 := by omega
      have g3b : ((c : Int) == 125) = false := beq_false_of_ne g3
      have HZ2 := Lib.hid hz2
      clear e hz hz2
      go_enter Tryz.func44, Tryz.ntmps44
      go_upto_region 1 with fail
      generalize w.alloc (.cells #[.nilFunc] 53) = w1 at *
      obtain ⟨c0, c1, c2, c3, c4, x0, x1, x2, x3, x4⟩ := HK.out.s.b.at
      have hne := HK.out.ne
      have r0 := HK.out.r.cell
      have r1 := HK.out.r.free
      have hstr : (convert 27 9 t).run Tryz.prog w1 = .ok (.string (strN s.text)) w1 := run_str (HK.out.s.tx.row HKF.out)
      rw [HZ2.out] at hstr
      go_wp2_with fail
      refine (fail_any p o t s 9 (by decide) w1 HK.out.s).mono ?_
      rintro e w3 ⟨o', t', he, hs, hf, mo, mt⟩
      obtain rfl : e = .returned (.agg #[.nilFunc]) := he
      have HK3 := Lib.hid (HK.out.call hs hf mo mt)
      clear hs hf mo mt
      have r0 := HK3.out.r.cell
      have r1 := HK3.out.r.free
      go_wp2_with fail
      have hk := HK3.out.res (.nilFunc)
      exact bodyPost_ret (v := .agg #[.nilFunc]) (ret42 hk.r rfl _ rfl) rfl (hk.done (rfl))
    · have e : sizS s c = (pushT s .siz c, 0) := by unfold sizS; rw [if_pos ⟨hd1, hd2, hz⟩]
      rw [e]
      have hz2 : ((strN s.text).toList == [48]) = false := beq_false_of_ne (fun h => hz (strN_inj HKF.out (by decide) (by rw [strN_toList] at h; exact h)))
      have HZ2 := Lib.hid hz2
      clear e hz hz2
      go_enter Tryz.func44, Tryz.ntmps44
      go_upto_region 1 with fail
      generalize w.alloc (.cells #[.nilFunc] 53) = w1 at *
      obtain ⟨c0, c1, c2, c3, c4, x0, x1, x2, x3, x4⟩ := HK.out.s.b.at
      have hne := HK.out.ne
      have r0 := HK.out.r.cell
      have r1 := HK.out.r.free
      have hstr : (convert 27 9 t).run Tryz.prog w1 = .ok (.string (strN s.text)) w1 := run_str (HK.out.s.tx.row HKF.out)
      have hq := HZ2.out
      generalize strN s.text = S at hstr hq
      have hq2 : (!S.toList == [48]) = true := by rw [hq]; rfl
      have htx := HK.out.s.tx
      go_wp2_with (at_builtin; go_loud (refine app1g rfl (.tmp 24) (.tmp 26) rfl htx (Nat.zero_le _) rfl rfl (by omega) (Lib.hid rfl) ?_); intro o' w2 ho hg2 hm2; obtain ⟨oa, oc, rfl⟩ := ho.shape; simp only [List.length_append, List.length_cons, List.length_nil, Nat.zero_add] at ho hm2; have HKP := Lib.hid (HK.out.push (s' := pushT s .siz c) ho hg2 hm2 rfl rfl rfl rfl); clear c0 c1 c2 c3 c4 x0 x1 x2 x3 x4; obtain ⟨c0, c1, c2, c3, c4, x0, x1, x2, x3, x4⟩ := ((HK.out.s.b.alloc _).grown hg2 (ownB_ne htx HK.out.s.b.row (by decide))).at; have hr2 := HK.out.r.same ((hg2.block _ (by have := HK.out.r.lt; simp; omega) (fun e => ownB_ne htx HK.out.r.row (by decide) e.symm)).trans (Below.heap_alloc w1 _ _ HK.out.r.lt)); have q0 := hr2.cell; have q1 := hr2.free; clear ho hg2 hm2 htx hr2)
      have hk := HKP.out.res (mdV .siz)
      exact bodyPost_ret (v := .agg #[mdV .siz]) (ret42 hk.r rfl _ rfl) rfl (hk.done rfl)
  · have hnd : (c : Int) < 48 ∨ (48 : Int) ≤ (c : Int) ∧ 57 < (c : Int) := by omega
    by_cases h1 : c = 125
    · by_cases hz : s.text = []
      · have e : sizS s c = (s, 9) := by unfold sizS; rw [if_neg (fun h => hd ⟨h.1, h.2.1⟩), if_neg (fun h => h.2 hz)]
        rw [e]
        subst h1
        have hl0 : s.text.length = 0 := by rw [hz]; rfl
        obtain ⟨ta, tc, ht⟩ : ∃ a c, t = .slice a 0 c := by obtain ⟨a, c, h⟩ := HK.out.s.tx.shape; exact ⟨a, c, by rw [h, hl0]⟩
        subst ht
        clear e hz hd hnd
        go_enter Tryz.func44, Tryz.ntmps44
        go_upto_region 1 with fail
        generalize w.alloc (.cells #[.nilFunc] 53) = w1 at *
        obtain ⟨c0, c1, c2, c3, c4, x0, x1, x2, x3, x4⟩ := HK.out.s.b.at
        have hne := HK.out.ne
        have r0 := HK.out.r.cell
        have r1 := HK.out.r.free
        go_wp2_with fail
        refine (fail_any p o _ s 9 (by decide) w1 HK.out.s).mono ?_
        rintro e w3 ⟨o', t', he, hs, hf, mo, mt⟩
        obtain rfl : e = .returned (.agg #[.nilFunc]) := he
        have HK3 := Lib.hid (HK.out.call hs hf mo mt)
        clear hs hf mo mt
        have r0 := HK3.out.r.cell
        have r1 := HK3.out.r.free
        go_wp2_with fail
        have hk := HK3.out.res (.nilFunc)
        exact bodyPost_ret (v := .agg #[.nilFunc]) (ret42 hk.r rfl _ rfl) rfl (hk.done (rfl))
      · have e : sizS s c = ({ s with m := .car }, 0) := by unfold sizS; rw [if_neg (fun h => hd ⟨h.1, h.2.1⟩), if_pos ⟨h1, hz⟩]
        rw [e]
        subst h1
        have hl0 : 0 < s.text.length := by cases hx : s.text with | nil => exact absurd hx hz | cons => simp
        have hl1 : (0 : Int) < (s.text.length : Int) := by omega
        obtain ⟨ta, tc, ht⟩ := HK.out.s.tx.shape
        subst ht
        clear e hz hd hnd
        go_enter Tryz.func44, Tryz.ntmps44
        go_upto_region 1 with fail
        generalize w.alloc (.cells #[.nilFunc] 53) = w1 at *
        obtain ⟨c0, c1, c2, c3, c4, x0, x1, x2, x3, x4⟩ := HK.out.s.b.at
        have hne := HK.out.ne
        have r0 := HK.out.r.cell
        have r1 := HK.out.r.free
        have HK2 : Hid (LexK w w1 p w.heap.size o (.slice ta s.text.length tc) o (.slice ta s.text.length tc) { s with m := .car } 0 .nilFunc) := Lib.hid ⟨⟨HK.out.s.b, HK.out.s.ot, HK.out.s.tx⟩, HK.out.r, HK.out.f, HK.out.mo, HK.out.mt, HK.out.kw, HK.out.pk⟩
        go_wp2_with fail
        have hk := HK2.out.res (mdV .car)
        exact bodyPost_ret (v := .agg #[mdV .car]) (ret42 hk.r rfl _ rfl) rfl (hk.done (rfl))
    · have e : sizS s c = (s, 9) := by unfold sizS; rw [if_neg (fun h => hd ⟨h.1, h.2.1⟩), if_neg (fun h => h1 h.1)]
      rw [e]
      have g3 : ¬ (c : Int) = 125 := by omega
      have g3b : ((c : Int) == 125) = false := beq_false_of_ne g3
      have HND := Lib.hid hnd
      clear e h1 hd hnd
      rcases HND.out with g1 | ⟨g1, g2⟩
      all_goals
        clear HND
        go_enter Tryz.func44, Tryz.ntmps44
        go_upto_region 1 with fail
        generalize w.alloc (.cells #[.nilFunc] 53) = w1 at *
        obtain ⟨c0, c1, c2, c3, c4, x0, x1, x2, x3, x4⟩ := HK.out.s.b.at
        have hne := HK.out.ne
        have r0 := HK.out.r.cell
        have r1 := HK.out.r.free
        go_wp2_with fail
        refine (fail_any p o t s 9 (by decide) w1 HK.out.s).mono ?_
        rintro e w3 ⟨o', t', he, hs, hf, mo, mt⟩
        obtain rfl : e = .returned (.agg #[.nilFunc]) := he
        have HK3 := Lib.hid (HK.out.call hs hf mo mt)
        clear hs hf mo mt
        have r0 := HK3.out.r.cell
        have r1 := HK3.out.r.free
        go_wp2_with fail
        have hk := HK3.out.res (.nilFunc)
        exact bodyPost_ret (v := .agg #[.nilFunc]) (ret42 hk.r rfl _ rfl) rfl (hk.done (rfl))

set_option maxRecDepth 100000 in
set_option maxHeartbeats 4000000 in
theorem feed_any (p : Nat) (o t : Value) (s : LS) (c : Nat) (hc : c < 256) (hfit : ∀ n ∈ s.text, n < 256) (hol : s.out.length + 1 ≤ 100000000) (htl : s.text.length ≤ 100000000) (hdg : ∀ n ∈ s.text, 48 ≤ n ∧ n ≤ 57) (hne0 : s.text ≠ []) (w : World) (hrng : RngV w) (k : LexS w p o t s 0) : Calls Tryz.prog 64 #[.pointer (some ⟨p, 0, none⟩), .int .u8 (c : Int)] w (LexIs w p o t (feeS s c)) := by
  have HK := Lib.hid (LexK.start k)
  have HKF := Lib.hid hfit
  clear k hfit
  have HDG := Lib.hid hdg
  have HNE := Lib.hid hne0
  clear hdg hne0
  by_cases h1 : c = 10
  · subst h1
    by_cases h2 : 16384 < valN s.text
    · rw [show feeS s 10 = (s, 10) by unfold feeS; rw [if_neg (by decide), if_pos h2]]
      go_enter Tryz.func64, Tryz.ntmps64
      go_upto_region 1 with fail
      have HRV : Hid (RngV (w.alloc (.cells #[.nilFunc] 53))) := Lib.hid (by obtain ⟨tp, q, h⟩ := hrng; exact ⟨tp, q, (((Below.refl w.heap.size w).alloc (Nat.le_refl _) _).cell (p := ⟨5, 0, none⟩) (World.block_lt_of_cell? w _ h)).trans h⟩)
      generalize w.alloc (.cells #[.nilFunc] 53) = w1 at *
      obtain ⟨c0, c1, c2, c3, c4, x0, x1, x2, x3, x4⟩ := HK.out.s.b.at
      have hne := HK.out.ne
      have r0 := HK.out.r.cell
      have r1 := HK.out.r.free
      have hstr : (convert 27 9 t).run Tryz.prog w1 = .ok (.string (strN s.text)) w1 := run_str (HK.out.s.tx.row HKF.out)
      go_wp2_with fail
      refine (atoi_any s.text HDG.out HNE.out htl w1 HRV.out).mono ?_
      rintro e w2 ⟨hb2, hres⟩
      have HK2 := Lib.hid (HK.out.below hb2)
      generalize valN s.text = V at *
      rcases hres with ⟨hv1, rfl⟩ | ⟨hv1, vv, NN, rfl⟩
      · have g1 : (16384 : Int) < (V : Int) := by omega
        obtain ⟨d0, d1, d2, d3, d4, y0, y1, y2, y3, y4⟩ := HK2.out.s.b.at
        clear hb2
        clear c0 c1 c2 c3 c4 x0 x1 x2 x3 x4
        clear r0 r1
        go_wp2_with fail
        refine (fail_any p o t s 10 (by decide) w2 HK2.out.s).mono ?_
        rintro e w3 ⟨o', t', he, hs, hf, mo, mt⟩
        obtain rfl : e = .returned (.agg #[.nilFunc]) := he
        have HK3 := Lib.hid (HK2.out.call hs hf mo mt)
        clear hs hf mo mt
        have r0 := HK3.out.r.cell
        have r1 := HK3.out.r.free
        go_wp2_with fail
        have hk := HK3.out.res (.nilFunc)
        exact bodyPost_ret (v := .agg #[.nilFunc]) (ret42 hk.r rfl _ rfl) rfl (hk.done (rfl))
      · skip
        obtain ⟨d0, d1, d2, d3, d4, y0, y1, y2, y3, y4⟩ := HK2.out.s.b.at
        clear hb2
        clear c0 c1 c2 c3 c4 x0 x1 x2 x3 x4
        clear r0 r1
        go_wp2_with fail
        refine (fail_any p o t s 10 (by decide) w2 HK2.out.s).mono ?_
        rintro e w3 ⟨o', t', he, hs, hf, mo, mt⟩
        obtain rfl : e = .returned (.agg #[.nilFunc]) := he
        have HK3 := Lib.hid (HK2.out.call hs hf mo mt)
        clear hs hf mo mt
        have r0 := HK3.out.r.cell
        have r1 := HK3.out.r.free
        go_wp2_with fail
        have hk := HK3.out.res (.nilFunc)
        exact bodyPost_ret (v := .agg #[.nilFunc]) (ret42 hk.r rfl _ rfl) rfl (hk.done (rfl))
    · by_cases h3 : valN s.text = 0
      · rw [show feeS s 10 = (tellS { s with text := [], left := 0 } 3, 0) by unfold feeS; rw [if_neg (by decide), if_neg h2, if_pos h3]]
        have H3 := Lib.hid h3
        clear h3
        go_enter Tryz.func64, Tryz.ntmps64
        go_upto_region 1 with fail
        have HRV : Hid (RngV (w.alloc (.cells #[.nilFunc] 53))) := Lib.hid (by obtain ⟨tp, q, h⟩ := hrng; exact ⟨tp, q, (((Below.refl w.heap.size w).alloc (Nat.le_refl _) _).cell (p := ⟨5, 0, none⟩) (World.block_lt_of_cell? w _ h)).trans h⟩)
        generalize w.alloc (.cells #[.nilFunc] 53) = w1 at *
        obtain ⟨c0, c1, c2, c3, c4, x0, x1, x2, x3, x4⟩ := HK.out.s.b.at
        have hne := HK.out.ne
        have r0 := HK.out.r.cell
        have r1 := HK.out.r.free
        have hstr : (convert 27 9 t).run Tryz.prog w1 = .ok (.string (strN s.text)) w1 := run_str (HK.out.s.tx.row HKF.out)
        go_wp2_with fail
        refine (atoi_any s.text HDG.out HNE.out htl w1 HRV.out).mono ?_
        rintro e w2 ⟨hb2, hres⟩
        have HK2 := Lib.hid (HK.out.below hb2)
        generalize valN s.text = V at *
        rcases hres with ⟨hv1, rfl⟩ | ⟨hv1, vv, NN, rfl⟩
        · have g1 : ¬ ((16384 : Int) < (V : Int)) := by omega
          have g1b : decide ((16384 : Int) < (V : Int)) = false := decide_eq_false g1
          obtain ⟨d0, d1, d2, d3, d4, y0, y1, y2, y3, y4⟩ := HK2.out.s.b.at
          have hne2 := HK2.out.ne
          have q0 := HK2.out.r.cell
          have q1 := HK2.out.r.free
          clear hb2
          clear c0 c1 c2 c3 c4 x0 x1 x2 x3 x4
          clear r0 r1
          go_upto_region 8 with fail
          have HK3 := Lib.hid (HK2.out.wipe (s' := { s with text := [] }) rfl rfl rfl rfl)
          have HK4 := Lib.hid (HK3.out.put (j := 2) (v := .int .i64 (V : Int)) (s' := { s with text := [], left := V }) (HK3.out.s.b.set2 (V : Int)) rfl rfl)
          clear d0 d1 d2 d3 d4 y0 y1 y2 y3 y4 q0 q1 hne2
          generalize (w2.setCell ⟨p, 1, none⟩ (.slice none 0 0)).setCell ⟨p, 2, none⟩ (.int .i64 (V : Int)) = w4 at *
          have hne2 := HK4.out.ne
          have q0 := HK4.out.r.cell
          have q1 := HK4.out.r.free
          have h3 := H3.out
          subst h3
          have HK4F : Hid (∀ n ∈ ([] : List Nat), n < 256) := Lib.hid (by simp)
          go_wp2_with fail
          refine (tell_any p _ _ ({ s with text := [], left := 0 }) 3 HK4F.out hol w4 HK4.out.s).mono ?_
          rintro e w3 ⟨o', t', he, hs, hf, mo, mt⟩
          obtain rfl : e = .returned (.agg #[mdV .btw]) := he
          have HK3b := Lib.hid (HK4.out.call hs hf mo mt)
          clear hs hf mo mt
          go_wp2_with fail
          rw [HK3b.out.r.store (mdV_one _)]
          go_wp2_with fail
          have hk := HK3b.out.res (mdV .btw)
          exact bodyPost_ret (v := .agg #[mdV .btw]) (ret42 hk.r rfl _ rfl) rfl (hk.done (rfl))
        · exact absurd hv1 (by omega)
      · rw [show feeS s 10 = ({ s with m := .lit, text := [], left := valN s.text }, 0) by unfold feeS; rw [if_neg (by decide), if_neg h2, if_neg h3]]
        have H3 := Lib.hid h3
        clear h3
        go_enter Tryz.func64, Tryz.ntmps64
        go_upto_region 1 with fail
        have HRV : Hid (RngV (w.alloc (.cells #[.nilFunc] 53))) := Lib.hid (by obtain ⟨tp, q, h⟩ := hrng; exact ⟨tp, q, (((Below.refl w.heap.size w).alloc (Nat.le_refl _) _).cell (p := ⟨5, 0, none⟩) (World.block_lt_of_cell? w _ h)).trans h⟩)
        generalize w.alloc (.cells #[.nilFunc] 53) = w1 at *
        obtain ⟨c0, c1, c2, c3, c4, x0, x1, x2, x3, x4⟩ := HK.out.s.b.at
        have hne := HK.out.ne
        have r0 := HK.out.r.cell
        have r1 := HK.out.r.free
        have hstr : (convert 27 9 t).run Tryz.prog w1 = .ok (.string (strN s.text)) w1 := run_str (HK.out.s.tx.row HKF.out)
        go_wp2_with fail
        refine (atoi_any s.text HDG.out HNE.out htl w1 HRV.out).mono ?_
        rintro e w2 ⟨hb2, hres⟩
        have HK2 := Lib.hid (HK.out.below hb2)
        generalize valN s.text = V at *
        rcases hres with ⟨hv1, rfl⟩ | ⟨hv1, vv, NN, rfl⟩
        · have g1 : ¬ ((16384 : Int) < (V : Int)) := by omega
          have g1b : decide ((16384 : Int) < (V : Int)) = false := decide_eq_false g1
          obtain ⟨d0, d1, d2, d3, d4, y0, y1, y2, y3, y4⟩ := HK2.out.s.b.at
          have hne2 := HK2.out.ne
          have q0 := HK2.out.r.cell
          have q1 := HK2.out.r.free
          clear hb2
          clear c0 c1 c2 c3 c4 x0 x1 x2 x3 x4
          clear r0 r1
          go_upto_region 8 with fail
          have HK3 := Lib.hid (HK2.out.wipe (s' := { s with text := [] }) rfl rfl rfl rfl)
          have HK4 := Lib.hid (HK3.out.put (j := 2) (v := .int .i64 (V : Int)) (s' := { s with text := [], left := V }) (HK3.out.s.b.set2 (V : Int)) rfl rfl)
          clear d0 d1 d2 d3 d4 y0 y1 y2 y3 y4 q0 q1 hne2
          generalize (w2.setCell ⟨p, 1, none⟩ (.slice none 0 0)).setCell ⟨p, 2, none⟩ (.int .i64 (V : Int)) = w4 at *
          have hne2 := HK4.out.ne
          have q0 := HK4.out.r.cell
          have q1 := HK4.out.r.free
          have h3 := H3.out
          have g3 : ¬ (V : Int) = 0 := by omega
          have g3b : ((V : Int) == 0) = false := beq_false_of_ne g3
          have HK5 : Hid (LexK w w4 p w.heap.size o t o (.slice none 0 0) { s with m := .lit, text := [], left := V } 0 .nilFunc) := Lib.hid ⟨⟨HK4.out.s.b, HK4.out.s.ot, HK4.out.s.tx⟩, HK4.out.r, HK4.out.f, HK4.out.mo, HK4.out.mt, HK4.out.kw, HK4.out.pk⟩
          go_wp2_with fail
          have hk := HK5.out.res (mdV .lit)
          exact bodyPost_ret (v := .agg #[mdV .lit]) (ret42 hk.r rfl _ rfl) rfl (hk.done (rfl))
        · exact absurd hv1 (by omega)
  have e : feeS s c = (s, 9) := by unfold feeS; rw [if_pos h1]
  rw [e]
  have g1 : ¬ (c : Int) = 10 := by omega
  have g1b : ((c : Int) == 10) = false := beq_false_of_ne g1
  have g1n : ((c : Int) != 10) = true := by simp [g1]
  clear e h1
  go_enter Tryz.func64, Tryz.ntmps64
  go_upto_region 1 with fail
  generalize w.alloc (.cells #[.nilFunc] 53) = w1 at *
  obtain ⟨c0, c1, c2, c3, c4, x0, x1, x2, x3, x4⟩ := HK.out.s.b.at
  have hne := HK.out.ne
  have r0 := HK.out.r.cell
  have r1 := HK.out.r.free
  go_wp2_with fail
  refine (fail_any p o t s 9 (by decide) w1 HK.out.s).mono ?_
  rintro e w3 ⟨o', t', he, hs, hf, mo, mt⟩
  obtain rfl : e = .returned (.agg #[.nilFunc]) := he
  have HK3 := Lib.hid (HK.out.call hs hf mo mt)
  clear hs hf mo mt
  have r0 := HK3.out.r.cell
  have r1 := HK3.out.r.free
  go_wp2_with fail
  have hk := HK3.out.res (.nilFunc)
  exact bodyPost_ret (v := .agg #[.nilFunc]) (ret42 hk.r rfl _ rfl) rfl (hk.done (rfl))

end Go.Proofs.YtghibofnfjnfcaaGreatDoor
