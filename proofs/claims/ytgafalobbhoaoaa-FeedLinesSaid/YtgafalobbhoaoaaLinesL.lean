/-
  The walk of FeedLines.
-/
import Derived.Test.YtgafalobbhoaoaaLinesA
namespace Go.Proofs.Ytgafalobbhoaoaa
set_option linter.unusedVariables false
open Go.RowKit

theorem Try.info9 : (Try.prog.info? 9).map (fun i => (i.zero, i.size, i.bytes)) = some (some (.string ByteArray.empty), 1, 16) := by kernel_rfl

/-- a slice of texts that came in -/
def StrsIn (w : World) (v : Value) (S : List ByteArray) : Prop :=
  (∀ s ∈ S, s.size ≤ 140737488351232) ∧ S.length ≤ maxLen ∧ ((S = [] ∧ ∃ a c, v = .slice a 0 c) ∨ ∃ b off c, v = .slice (some ⟨b, off, none⟩) S.length c ∧ b < w.heap.size ∧ S.length ≤ c ∧ ∀ i (h : i < S.length), w.cell? ⟨b, off + i, none⟩ = some (.string S[i]))

/-- 'append(want, s)' -/
theorem app_str {ops : Array Oper} {rest : List Oper} {o : Oper} {a : Act} {Q : Exit → Act → World → Prop} (hgd : o.guard = none) (s x : Operand)
    (ho : o.op = .call { callee := .builtin .append, args := #[s, x], argTypes := #[40, 40] })
    {wr : World} {B : Nat} {v : Value} {us : List ByteArray} {u : ByteArray} (hown : wr.ownsRow B 9 1 v us.length (us.map Value.string)) (hB : B ≤ wr.heap.size)
    (hs : a.eval s = v) (hx : a.eval x = .slice (some ⟨wr.heap.size, 0, none⟩) 1 1) (hlen : us.length ≤ 100)
    (h : ∀ o' w2, w2.ownsRow B 9 1 o' (us.length + 1) (us.map Value.string ++ [.string u]) → (wr.alloc (.cells #[.string u] 9)).grownBy w2 v.ownBlock → wpList Try.prog ops Q rest (a.put o.dst o') w2) :
    wpList Try.prog ops Q (o :: rest) a (wr.alloc (.cells #[.string u] 9)) := by
  obtain ⟨i0, hi, hz0, hz1, hz2⟩ := info_parts Try.info9
  refine wpList_append_own_at _ hgd s x 40 ho B 9 i0 (.string ByteArray.empty) 1 16 Try.underlying40 hi hz0 hz1 hz2 rfl (by decide) v us.length (us.map Value.string) hs (World.ownsRow.alloc hown _) ⟨wr.heap.size, 0, none⟩ 1 1 [.string u] hx rfl (one_new _ _ _) (by simp [Value.oneCell']) (by simp [maxLen]; omega) (by omega) (by simp; omega) ?_
  intro o' w2 ho' hgr _ hat
  exact h o' w2 ho' hgr

def B4 : Array Value := #[.int .u8 32, .int .u8 121, .int .u8 13, .int .u8 10]
theorem row4 (w : World) : RowB (w.alloc (.cells B4 5 (4, 5))) (.slice (some ⟨w.heap.size, 0, none⟩) 4 4) [32, 121, 13, 10] := by
  refine ⟨_, _, _, rfl, rfl, by decide, by decide, by decide, by simp, fun x hx i hi => ?_⟩
  obtain rfl := Option.some.inj hx
  rw [Addr.add_lit, Nat.zero_add, cell_of_row _ _ i _ 5 (4, 5) (heap_alloc_new w _)]
  have hi4 : i < 4 := hi
  have : i = 0 ∨ i = 1 ∨ i = 2 ∨ i = 3 := by omega
  rcases this with rfl | rfl | rfl | rfl <;> rfl
theorem bytes_ok (s : ByteArray) (k : Nat) (hk : k = s.size) (h : ∀ i (hi : i < s.size), i < k → s[i].toNat ≠ 13 ∧ s[i].toNat ≠ 10) : ∀ x ∈ natsS s, x ≠ 13 ∧ x ≠ 10 := by
  intro x hx
  obtain ⟨i, hi, rfl⟩ := List.getElem_of_mem hx
  have hi' : i < s.size := by rw [natsS_len] at hi; exact hi
  rw [natsS_at s i hi']
  exact h i hi' (by omega)
theorem natsS_append (a b : ByteArray) : natsS (a ++ b) = natsS a ++ natsS b := by simp [natsS]

set_option maxRecDepth 100000 in
set_option maxHeartbeats 8000000 in
theorem lines_any (v0 : Value) (S : List ByteArray) (vl : Value) (l : List Nat) (w : World) (h0 : StrsIn w v0 S) (hl : RowB w vl l) :
    Calls Try.prog 4 #[v0, vl] w fun e w' => e = .returned (.bool true) ∧ Below w.heap.size w w' := by
  obtain ⟨la, lcap, hvl⟩ : ∃ a c, vl = .slice a l.length c := by obtain ⟨a, len, c, e, h, _⟩ := hl; exact ⟨a, c, by rw [e, h]⟩
  obtain ⟨sa, scap, hv0⟩ : ∃ a c, v0 = .slice a S.length c := by
    rcases h0.2.2 with ⟨rfl, a, c, e⟩ | ⟨b, off, c, e, _⟩
    · exact ⟨a, c, e⟩
    · exact ⟨_, c, e⟩
  subst hvl hv0
  have HS := Lib.hid h0
  have HL := Lib.hid hl
  have hSl : S.length ≤ maxLen := h0.2.1
  unfold maxLen at hSl
  have HSL := Lib.hid hSl
  clear h0 hl hSl
  go_enter Try.func4, Try.ntmps4
  go_wp2_with fail
  refine (new_any w).mono ?_
  rintro e w1 ⟨rfl, hf1, hz1, hb1⟩
  have HF1 := Lib.hid hf1
  have HB1 := Lib.hid hb1
  have HZ1 := Lib.hid hz1
  clear hf1 hb1 hz1
  go_wp2_with fail
  refine (awake_any _).mono ?_
  rintro e w2 ⟨rfl, hb2⟩
  have HP2 : Hid (Putting w w2 w.heap.size (linesB []) [] (.slice none 0 0) (.slice none 0 0)) := Lib.hid ⟨HF1.out.keep hb2 (by have := HZ1.out; omega), World.ownsRow_nil _ _ _ _, World.ownsRow_nil _ _ _ _, HB1.out.trans (hb2.mono HB1.out.size), Nat.le_refl _, fun g hg => by simp [Value.ownBlock] at hg⟩
  clear hb2 HF1 HB1 HZ1
  by_cases hbig : 16384 < l.length
  · have hb' : decide (16384 < (l.length : Int)) = true := decide_eq_true (by omega)
    clear hbig
    go_wp2_with fail
    refine (awake_any _).mono ?_
    rintro e w3 ⟨rfl, hb3⟩
    have HB3 := Lib.hid (HP2.out.b.trans (hb3.mono HP2.out.b.size))
    clear hb3
    go_wp2_with fail
    go_ret
    exact ⟨rfl, HB3.out⟩
  have hb' : decide (16384 < (l.length : Int)) = false := decide_eq_false (by omega)
  have hlb : l.length ≤ 16384 := by omega
  clear hbig
  go_wp2_with fail
  go_loopw [6, 7] (fun want i wr => ∃ (k : Nat) (r : Value), k ≤ S.length ∧ k ≤ 30 ∧ i = .int .i64 (k : Int) ∧ (∀ u ∈ S.take k, GoodL u) ∧ Putting w wr w.heap.size (linesB (S.take k)) (S.take k) want r) (fun _ i _ => 30 - (intOf i).toNat)
  case atStart => exact ⟨0, _, Nat.zero_le _, by decide, rfl, by simp, HP2.out⟩
  case round =>
    obtain ⟨k, r, hk, hk30, rfl, hgood, hput⟩ := hrel
    have HG := Lib.hid hgood
    have HPU := Lib.hid hput
    clear hgood hput
    by_cases hgo : k < S.length ∧ k < 30
    · obtain ⟨hk1, hk2⟩ := hgo
      have htk : (S.take k).length = k := by simp; omega
      have htk1 : S.take (k + 1) = S.take k ++ [S[k]] := List.take_succ_eq_append_getElem hk1
      have HTK := Lib.hid htk
      have HTK1 := Lib.hid htk1
      obtain ⟨s, hs⟩ : ∃ s, S[k] = s := ⟨_, rfl⟩
      have hss : s.size ≤ 140737488351232 := by rw [← hs]; exact HS.out.1 _ (List.getElem_mem hk1)
      have HSV := Lib.hid hs
      clear htk htk1
      rcases HS.out.2.2 with ⟨hn, _⟩ | ⟨b, off, c0, hv, hbw, hsc, hcell⟩
      · rw [hn] at hk1; simp at hk1
      simp only [Value.slice.injEq] at hv
      obtain ⟨rfl, _, rfl⟩ := hv
      have hcs : wr.cell? ⟨b, off + k, none⟩ = some (.string s) := by
        rw [HPU.out.b.cell (p := ⟨b, off + k, none⟩) hbw, hcell k hk1, hs]
      have g1 : (k : Int) < (S.length : Int) := by omega
      clear hcell hs
      go_wp2_with fail
      go_loop [9] (fun j => ∃ jj : Nat, jj ≤ s.size ∧ j = .int .i64 (jj : Int) ∧ (∀ i (hi : i < s.size), i < jj → s[i].toNat ≠ 13 ∧ s[i].toNat ≠ 10)) (fun j => s.size - (intOf j).toNat)
      case atStart => exact ⟨0, Nat.zero_le _, rfl, fun i _ h => absurd h (by omega)⟩
      case round =>
        obtain ⟨j, hj, rfl, hprev⟩ := hrel
        have HPREV := Lib.hid hprev
        clear hprev
        by_cases hjl : j < s.size
        · by_cases h13 : s[j].toNat = 13
          · have f1 : ((s[j].toNat : Int) == 13) = true := by simp [h13]
            clear h13
            go_wp2_with fail
            go_ret
            exact ⟨rfl, HPU.out.b⟩
          · have f1 : ((s[j].toNat : Int) == 13) = false := beq_false_of_ne (by omega)
            by_cases h10 : s[j].toNat = 10
            · have f2 : ((s[j].toNat : Int) == 10) = true := by simp [h10]
              clear h13 h10
              go_wp2_with fail
              go_ret
              exact ⟨rfl, HPU.out.b⟩
            · have f2 : ((s[j].toNat : Int) == 10) = false := beq_false_of_ne (by omega)
              have HNE := Lib.hid (And.intro h13 h10)
              clear h13 h10
              go_wp2_with fail
              go_round
              case rel => exact ⟨j + 1, by omega, by go_num, fun i hi hlt => by
                by_cases hij : i = j
                · subst hij; exact HNE.out
                · exact HPREV.out i hi (by omega)⟩
              case measure => simp [intOf]; omega
        · have hall := Lib.hid (bytes_ok s j (by omega) HPREV.out)
          obtain ⟨cap3, w3, hcv, hb3, hr3, hz3⟩ := conv_any s wr
          have HR3 := Lib.hid (hr3 hss)
          have HP3 := Lib.hid (HPU.out.below hb3)
          clear hr3 hb3 hz3
          go_wp2_with fail
          refine (rann_any _ (natsS s) w3 HR3.out (by rw [natsS_len]; exact hss)).mono ?_
          rintro e w4 ⟨rfl, rfl⟩
          cases hA : annP (natsS s) with
          | some v =>
            unfold annV
            clear hA
            go_wp2_with fail
            go_ret
            exact ⟨rfl, HP3.out.b⟩
          | none =>
            have HA := Lib.hid hA
            unfold annV
            clear hA
            by_cases hlong : 4094 < s.size
            · have f3 : decide (4094 < (s.size : Int)) = true := decide_eq_true (by omega)
              clear hlong
              go_wp2_with fail
              go_ret
              exact ⟨rfl, HP3.out.b⟩
            · have f3 : decide (4094 < (s.size : Int)) = false := decide_eq_false (by omega)
              have HGOOD : Hid (GoodL s) := Lib.hid ⟨hall.out, HA.out, by omega⟩
              have hcat : ((9223372036854775807 : Nat) < s.size + 2) = False := eq_false (by omega)
              have hs4 : s.size ≤ 4094 := by omega
              clear hlong hcv
              go_wp2_with (at_builtin; go_loud (refine app_str rfl (.tmp 77) (.tmp 79) rfl HP3.out.v HP3.out.b.size rfl rfl (by rw [HTK.out]; omega) ?_); intro o' w5 hv5 hg5; have hp5 := HP3.out.want _ hv5 hg5; obtain ⟨cap6, w6, hcv6, hb6, hr6, hz6⟩ := conv_any (s ++ ⟨#[13, 10]⟩) w5; have HR6 := Lib.hid hr6; have HP6 := Lib.hid (hp5.below hb6); clear hv5 hg5 hp5 hb6 hr6 hz6)
              have hsz6 : (s ++ (⟨#[13, 10]⟩ : ByteArray)).size = s.size + 2 := by rw [ByteArray.size_append]; rfl
              refine (put_own _ _ _ _ _ _ _ _ _ _ _ (natsS (s ++ ⟨#[13, 10]⟩)) _ HP6.out.f HP6.out.o (by have := HR6.out (by rw [hsz6]; omega); rw [hsz6] at this; exact this) (by rw [natsS_len, hsz6]; have := linesB_len (S.take k) (fun u hu => (HG.out u hu).2.2); rw [HTK.out] at this; omega)).mono ?_
              rintro e w7 ⟨r', rfl, hf7, ho7, ft7, mv7⟩
              have HP7 := Lib.hid (HP6.out.put hf7 ho7 ft7 mv7)
              clear hf7 ho7 ft7 mv7 hcat hsz6 hcv6
              go_wp2_with fail
              go_roundw
              case rel =>
                refine ⟨k + 1, r', by omega, by omega, by go_num, ?_, ?_⟩
                · rw [HTK1.out, HSV.out]
                  intro u hu
                  rcases List.mem_append.1 hu with h | h
                  · exact HG.out u h
                  · simp at h; subst h; exact HGOOD.out
                · rw [HTK1.out, HSV.out, linesB_snoc]
                  have := HP7.out
                  rw [natsS_append] at this
                  exact this
              case measure => simp [intOf]; omega
    · have hex : (k = S.length ∨ ((30 : Int) < (S.length : Int) ∧ k = 30)) := by
        by_cases h : k < S.length
        · exact .inr ⟨by omega, by omega⟩
        · exact .inl (by omega)
      have HEX := Lib.hid hex
      clear hex hgo
      obtain ⟨us, hus⟩ : ∃ us, S.take k = us := ⟨_, rfl⟩
      have husl : us.length ≤ 30 := by rw [← hus]; simp; omega
      rw [hus] at HG HPU
      clear hus
      have hB := linesB_len us (fun u hu => (HG.out u hu).2.2)
      have hdl := decL_len l.length 4 (by omega)
      have hw1 : IntKind.u64.wrap (l.length : Int) = (l.length : Int) := by rw [IntKind.wrap_u64]; omega
      obtain ⟨D, hD⟩ : ∃ D : ByteArray, D = strN (decL l.length) := ⟨_, rfl⟩
      have hDs : D.size ≤ 5 := by rw [hD, strN_size]; omega
      have hD' := Lib.hid hD
      obtain ⟨HD, hHD⟩ : ∃ HD : ByteArray, HD = (⟨#[120, 32, 123]⟩ ++ D) ++ ⟨#[125, 13, 10]⟩ := ⟨_, rfl⟩
      have hHs : HD.size = D.size + 6 := by rw [hHD, ByteArray.size_append, ByteArray.size_append]; show 3 + D.size + 3 = _; omega
      have hHN : natsS HD = headL l.length ++ [13, 10] := by
        have e : natsS D = decL l.length := by rw [hD]; exact natsS_strN (fun n hn => by have := decL_dig l.length n hn; omega)
        rw [hHD, natsS_append, natsS_append, e]
        unfold headL
        have e1 : natsS ⟨#[120, 32, 123]⟩ = [120, 32, 123] := by decide
        have e2 : natsS ⟨#[125, 13, 10]⟩ = [125, 13, 10] := by decide
        rw [e1, e2]
        simp
      have HHD := Lib.hid hHD
      have HHN := Lib.hid hHN
      have HHS := Lib.hid hHs
      have hcat1 : ((9223372036854775807 : Nat) < 3 + D.size) = False := eq_false (by omega)
      have hcat2 : ((9223372036854775807 : Nat) < 3 + D.size + 3) = False := eq_false (by omega)
      have hdig := digits_any l.length
      rw [← hD] at hdig
      have HDIG := Lib.hid hdig
      clear hD hHD hHN hHs hdig
      rcases HEX.out with rfl | ⟨g1, rfl⟩
      all_goals
        clear HEX
        go_wp2_with fail
        refine (HDIG.out _ (by omega)).mono ?_
        rintro e w3 ⟨rfl, hb3⟩
        have HP3 := Lib.hid (HPU.out.below hb3)
        clear hb3
        obtain ⟨cap4, w4, hcv4, hb4, hr4, hz4⟩ := conv_any HD w3
        have HR4 := Lib.hid (hr4 (by have := HHS.out; omega))
        have HP4 := Lib.hid (HP3.out.below hb4)
        rw [HHD.out] at hcv4
        clear hb4 hr4 hz4
        go_wp2_with fail
        refine (put_own _ _ _ _ _ _ _ _ _ _ _ (natsS HD) _ HP4.out.f HP4.out.o (by have := HR4.out; rw [show HD.size = 3 + D.size + 3 by have := HHS.out; omega] at this; exact this) (by rw [natsS_len, HHS.out]; omega)).mono ?_
        rintro e w5 ⟨r5, rfl, hf5, ho5, ft5, mv5⟩
        have HP5 := Lib.hid (HP4.out.put hf5 ho5 ft5 mv5)
        clear hf5 ho5 ft5 mv5 hcv4
        go_wp2_with fail
        refine (put_own _ _ _ _ _ _ _ _ _ _ _ l _ HP5.out.f HP5.out.o (HL.out.below HP5.out.b) (by rw [List.length_append, natsS_len, HHS.out]; omega)).mono ?_
        rintro e w6 ⟨r6, rfl, hf6, ho6, ft6, mv6⟩
        have HP6 := Lib.hid (HP5.out.put hf6 ho6 ft6 mv6)
        clear hf6 ho6 ft6 mv6
        go_wp2_with fail
        have kc := Go.Joins.run_convert_bytes_const_at (P := Try.prog) w6 27 5 B4 4 4 w6.heap.size rfl Try.underlying27 Try.underlying5
        unfold B4 at kc
        rw [kc]
        clear kc
        have HP7 := Lib.hid (HP6.out.below ((Below.refl w6.heap.size w6).alloc (Nat.le_refl _) (.cells B4 5 (4, 5))))
        have HR7 := Lib.hid (row4 w6)
        unfold B4 at HP7 HR7
        go_wp2_with fail
        refine (put_own _ _ _ _ _ _ _ _ _ _ _ [32, 121, 13, 10] _ HP7.out.f HP7.out.o HR7.out (by rw [List.length_append, List.length_append, natsS_len, HHS.out]; simp; omega)).mono ?_
        rintro e w8 ⟨r8, rfl, hf8, ho8, ft8, mv8⟩
        have HP8 := Lib.hid (HP7.out.put hf8 ho8 ft8 mv8)
        clear hf8 ho8 ft8 mv8 HP2 HPU HP3 HP4 HP5 HP6 HP7 HR7 HR4
        obtain ⟨va, vc, hv6⟩ := strs_shape HP8.out.v
        subst hv6
        obtain ⟨T, hT⟩ : ∃ T, T = headL l.length ++ 13 :: 10 :: (l ++ [32, 121, 13, 10]) := ⟨_, rfl⟩
        have hTl : T.length ≤ 20000 := by
          rw [hT]
          have := headL_len l.length hlb
          simp
          omega
        have hTn : T ≠ [] := by rw [hT]; simp
        have HT0 : Hid (Telling w w8 w.heap.size (linesB us ++ T) st0 us (.slice va us.length vc) r8 (.slice none 0 0)) := by
          have hl0 := HL.out.lt
          have e : ((linesB us ++ natsS HD) ++ l) ++ [32, 121, 13, 10] = linesB us ++ T := by rw [hT, HHN.out]; simp
          have ho := HP8.out.o
          rw [e] at ho
          refine Lib.hid ⟨.inr ⟨rfl, HP8.out.f, World.ownsRow_nil _ _ _ _⟩, ok0, RestB.of_own ho ?_, HP8.out.v, HP8.out.b, HP8.out.pl, HP8.out.rl, fun g hg => by simp [Value.ownBlock] at hg, fun g hg h => by simp [Value.ownBlock] at h⟩
          rw [← e]
          intro n hn
          rcases List.mem_append.1 hn with hn | hn
          · rcases List.mem_append.1 hn with hn | hn
            · rcases List.mem_append.1 hn with hn | hn
              · exact linesB_lt us n hn
              · exact natsS_lt HD n hn
            · exact hl0 n hn
          · simp at hn; omega
        have HTT := Lib.hid hT
        have hlen : ∀ k, (linesB (us.drop k) ++ T).length ≤ 2000000 := by
          intro k
          have h1 := linesB_len (us.drop k) (fun u hu => (HG.out u (List.mem_of_mem_drop hu)).2.2)
          simp at h1 ⊢
          omega
        have HLEN := Lib.hid hlen
        have HTN := Lib.hid hTn
        have HUL := Lib.hid husl
        clear hT hTl hTn HP8 hlen hB hdl hw1
        go_wp2_with fail
        go_loopw [13] (fun i wr => ∃ (k : Nat) (r h : Value), k ≤ us.length ∧ i = .int .i64 (k : Int) ∧ Telling w wr w.heap.size (linesB (us.drop k) ++ T) st0 us (.slice va us.length vc) r h) (fun i _ => us.length - (intOf i).toNat)
        case atStart => exact ⟨0, _, _, Nat.zero_le _, rfl, by simpa using HT0.out⟩
        case round =>
          obtain ⟨k, r, h, hk, rfl, htell⟩ := hrel
          have HTL := Lib.hid htell
          clear htell
          by_cases hku : k < us.length
          · have hdr : us.drop k = us[k] :: us.drop (k + 1) := List.drop_eq_getElem_cons hku
            obtain ⟨u, hu⟩ : ∃ u, us[k] = u := ⟨_, rfl⟩
            have hgood : GoodL u := HG.out u (hu ▸ List.getElem_mem hku)
            obtain ⟨g, hva, hcell⟩ := strs_cell HTL.out.v k hku
            rw [hu] at hcell
            have hrun : runS st0 (linesB (us.drop k) ++ T) = (st0, linesB (us.drop (k + 1)) ++ T, 1, natsS u) := by
              rw [hdr, hu, linesB_cons]
              have e : natsS u ++ 13 :: 10 :: linesB (us.drop (k + 1)) ++ T = natsS u ++ 13 :: 10 :: (linesB (us.drop (k + 1)) ++ T) := by simp
              rw [e, run_line (natsS u) _ st0 rfl rfl (fun x hx => (hgood.1 x hx).2) (by rw [natsS_len]; have := hgood.2.2; show 0 + _ + 2 ≤ _; omega), hgood.2.1]
              rfl
            have HRUN := Lib.hid hrun
            have HVA := Lib.hid hva
            have hcu : us.length ≤ 30 := HUL.out
            have HU := Lib.hid hu
            clear hdr hu hgood hcell hrun hva
            go_wp2_with fail
            refine (HTL.out.ask (HLEN.out k) (.inl (by simp [HTN.out])) HRUN.out).mono ?_
            rintro e w9 ⟨o, r', h', rfl, ht9, _, ho9, _, _⟩
            have HT9 := Lib.hid ht9
            have hrow := ho9.row (natsS_lt u)
            have hcv : ∀ n, (convert 27 9 o).run Try.prog (w9.drewN n) = .ok (.string u) (w9.drewN n) := by
              intro n
              have := run_str (hrow.below (below_drewN (Below.refl w9.heap.size w9) n))
              rw [strN_natsS] at this
              exact this
            obtain ⟨g', hva', hcell⟩ := strs_cell ht9.v k hku
            have hgg : g' = g := by have := HVA.out; rw [hva'] at this; simpa using this
            subst hgg
            have hcellu : w9.cell? ⟨g', k, none⟩ = some (.string u) := by rw [hcell, HU.out]
            clear ht9 hrow ho9 hcell
            subst hva'
            go_wp2_with fail
            go_quiet (fail)
            go_wp2_with fail
            go_roundw
            case rel => exact ⟨k + 1, r', h', by omega, by go_num, HT9.out.below (below_drewN (Below.refl _ _) _)⟩
            case measure => simp [intOf]; omega
          · obtain rfl : k = us.length := by omega
            obtain ⟨s1, hr1, hr2⟩ := run_end l hlb
            have HR1 := Lib.hid hr1
            have HR2 := Lib.hid hr2
            have htl := HTL.out
            rw [List.drop_length] at htl
            have e0 : linesB [] ++ T = headL l.length ++ 13 :: 10 :: (l ++ [32, 121, 13, 10]) := by rw [HTT.out]; rfl
            rw [e0] at htl
            have HT1 := Lib.hid htl
            have htl1 := HLEN.out us.length
            rw [List.drop_length, e0] at htl1
            have HTL1 := Lib.hid htl1
            clear hr1 hr2 htl e0 htl1
            go_wp2_with fail
            refine (HT1.out.ask HTL1.out (.inl (by simp)) HR1.out).mono ?_
            rintro e w9 ⟨o1, r1, h1, rfl, ht1, _, ho1, _, _⟩
            have HT2 := Lib.hid ht1
            clear ht1 ho1
            go_wp2_with fail
            refine (HT2.out.ask (by simp; omega) (.inl (by simp)) HR2.out).mono ?_
            rintro e w10 ⟨o2, r2, h2, rfl, ht2, hf2, ho2, _, hn2⟩
            obtain rfl := hn2 rfl
            have HT3 := Lib.hid ht2
            have HF3 := Lib.hid hf2
            have HO3 := Lib.hid ho2
            have HP := Lib.hid (show w.heap.size < w9.heap.size from by
              obtain ⟨f, kb, _⟩ := HT2.out.f.feed
              exact kb.lt)
            clear ht2 hf2 ho2 hn2
            go_wp2_with fail
            refine (HT3.out.ask (by simp) (.inr HF3.out) (show runS st0 [] = (st0, [], 0, []) from rfl)).mono ?_
            rintro e w11 ⟨o3, r3, h3, rfl, ht4, hf4, ho4, ft4, _⟩
            have hO : OwnB w11 w9.heap.size o2 (headL l.length ++ [13, 10] ++ l ++ [32, 121]) := by
              refine ⟨HO3.out.1, ?_⟩
              rcases HO3.out.2 with q | ⟨g, cap, cur, q1, hb, hh, q2⟩
              · exact .inl q
              · refine .inr ⟨g, cap, cur, q1, hb, ?_, q2⟩
                rw [ft4.block g (Array.getElem?_eq_some_iff.1 hh).1 (by have := HP.out; omega) (by simp [Value.ownBlock])]
                exact hh
            obtain ⟨LS, hLS⟩ : ∃ LS, LS = strN l := ⟨_, rfl⟩
            have hLz : LS.size = l.length := by rw [hLS, strN_size]
            have hsl : (convert 27 9 (.slice la l.length lcap)).run Try.prog w11 = .ok (.string LS) w11 := by rw [hLS]; exact run_str (HL.out.below ht4.b)
            have hs2 : (convert 27 9 o2).run Try.prog w11 = .ok (.string (({ data := #[120, 32, 123] } ++ D ++ { data := #[125, 13, 10] }) ++ LS ++ { data := #[32, 121] })) w11 := by
              have hl0 := HL.out.lt
              have hHn : ∀ n ∈ headL l.length ++ [13, 10], n < 256 := by rw [← HHN.out]; exact natsS_lt HD
              rw [run_str (hO.row (by
                intro n hn
                rcases List.mem_append.1 hn with hn | hn
                · rcases List.mem_append.1 hn with hn | hn
                  · exact hHn n hn
                  · exact hl0 n hn
                · simp at hn; omega))]
              rw [strN_append, strN_append, ← hLS, ← HHN.out, strN_natsS, ← HHD.out]
              rfl
            have hcat3 : ((9223372036854775807 : Nat) < 3 + D.size + 3 + LS.size) = False := eq_false (by omega)
            have hcat4 : ((9223372036854775807 : Nat) < 3 + D.size + 3 + LS.size + 2) = False := eq_false (by omega)
            obtain ⟨ra, rc, hr3⟩ := ht4.rest.shape'
            obtain ⟨ha, hc, hh3⟩ := hf4.o.shape
            have hheld := held_one w.heap.size _ _ _ _ _ _ 0 0 ha ra hc rc w11 (by have := hf4.b; rw [hr3, hh3] at this; exact this) (by decide) (by decide)
            have HHELD := Lib.hid hheld
            have HT4 := Lib.hid ht4.b
            clear ht4 hf4 ho4 ft4 hO hLS hLz hr3 hh3 hheld
            go_wp2_with fail
            refine HHELD.out.mono ?_
            rintro e w12 ⟨rfl, hb12⟩
            have HB12 := Lib.hid (HT4.out.trans (hb12.mono HT4.out.size))
            clear hb12
            go_wp2_with fail
            go_ret
            exact ⟨rfl, HB12.out⟩

end Go.Proofs.Ytgafalobbhoaoaa
