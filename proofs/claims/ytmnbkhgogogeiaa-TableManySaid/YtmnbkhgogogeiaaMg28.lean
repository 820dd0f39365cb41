/-
  Several texts of one proof, each in a section of its own: Do, Opn, Cpy.
-/
import Derived.Test.YtmnbkhgogogeiaaApplMg
namespace Go.Proofs.Ytmnbkhgogogeiaa
section
set_option linter.unusedVariables false
open Go.RowKit

theorem weigh_at (C : List Chg) (k : Nat) (h : k < C.length) : weigh (C.take k) + (C[k].key.length + C[k].val.length) ≤ weigh C := by
  have h1 : C = C.take k ++ (C[k] :: C.drop (k + 1)) := by rw [← List.drop_eq_getElem_cons h, List.take_append_drop]
  have h2 : weigh C = weigh (C.take k) + weigh (C[k] :: C.drop (k + 1)) := by rw [← weigh_append, ← h1]
  have h3 : weigh (C[k] :: C.drop (k + 1)) = C[k].key.length + C[k].val.length + weigh (C.drop (k + 1)) := by
    unfold weigh
    rw [List.map_cons, List.sum_cons]
  omega
theorem TbV.none {w : World} {pt pl : Nat} {sec cost : Nat} {pv : Value} (h : TbV w pt (.pointer (some ⟨pl, 0, none⟩)) sec cost pv) : Calls Try.prog 31 #[.pointer (some ⟨pt, 0, none⟩)] w fun e w' => e = .returned (.bool false) ∧ w = w' := by
  obtain ⟨t0, -, -, -⟩ := h.cells
  clear h
  go_enter Try.func31, Try.ntmps31
  go_wp2_with fail
  go_ret
  exact ⟨rfl, rfl⟩
theorem sync_t {B : Nat} {w0 w : World} {pt pl pd : Nat} {kv : Value} {ring u sec : Nat} {P : List (List Nat × List Nat)} (h : Tb B w0 w pt pl pd kv ring u sec P) :
    Calls Try.prog 32 #[.pointer (some ⟨pl, 0, none⟩)] w fun e w' => e = .returned (.int .i64 0) ∧ Tb B w0 w' pt pl pd kv ring u sec P ∧ LT w w' := by
  obtain ⟨⟨s, S, W, hl, hf, hst⟩, ⟨cost, pv, L, ht, hc, hr, hm⟩, hB, hu⟩ := h
  refine (sync_any hl).mono ?_
  rintro e w' ⟨rfl, hl2, hq⟩
  have hlq : LQ w w' := hq.lq (Nat.le_refl _)
  exact ⟨rfl, ⟨⟨s, _, [], hl2, hf.flush, hst.1, hst.2.1, hst.2.2.1, hst.2.2.2.1, Nat.zero_le _⟩, ⟨cost, pv, L, ht.lq hlq, hc, hr.lq hlq, hm⟩, hB, hu⟩, hlq.lt⟩

set_option maxRecDepth 100000 in
set_option maxHeartbeats 4000000 in
theorem do_end {B : Nat} {w0 w : World} {pt pl pd : Nat} {kv : Value} {ring u sec : Nat} {P : List (List Nat × List Nat)} (h : Tb B w0 w pt pl pd kv ring u sec P) {v : Value} {C : List Chg} (hv : ChgV w v C) (hC0 : 0 < C.length) (hC : C.length ≤ 60) (hw : weigh C ≤ 61440) (hkey : ∀ c ∈ C, 0 < c.key.length ∧ c.key.length ≤ 64) (hd : ∀ c ∈ C, c.drop = false)
    (hB : B ≤ w.heap.size) (N : Nat) (hN : 16 + 27 * C.length + weigh C = N) (hroom : u + cellsN N ≤ ring) (hring : ring ≤ 65534) (hP : P.length ≤ 5000) (hk : ∀ j (hj : j < C.length), ∀ x ∈ P ++ (C.take j).map (fun c => (c.key, c.val)), decide (0 ≤ cmpL x.1 C[j].key) = false) :
    Calls Try.prog 12 #[.pointer (some ⟨pt, 0, none⟩), v] w fun e w' => e = .returned (.int .i64 0) ∧ Tb B w0 w' pt pl pd kv ring (u + cellsN N) sec (P ++ C.map fun c => (c.key, c.val)) ∧ LT w w' := by
  obtain ⟨a, cap, rfl, h1, h2, -⟩ := id hv
  have HV := Lib.hid hv
  have HT := Lib.hid h
  have HNO : Hid (Calls Try.prog 31 #[.pointer (some ⟨pt, 0, none⟩)] w fun e w' => e = .returned (.bool false) ∧ w = w') := Lib.hid (by
    obtain ⟨_, ⟨cost, pv, L, ht, _⟩, _⟩ := h
    exact ht.none)
  have HC := Lib.hid (And.intro hC0 (And.intro hC (And.intro hw (And.intro hkey (And.intro hd (And.intro hB (And.intro hN (And.intro hroom (And.intro hring (And.intro hP hk))))))))))
  have hcl : (C.length : Int) ≤ 60 := by omega
  have hc0 : ¬ (C.length : Int) = 0 := by omega
  have hwz : (weigh C : Int) ≤ 61440 := by omega
  clear h1 h2 hv h hC0 hC hw hkey hd hB hN hroom hring hP hk
  go_enter Try.func12, Try.ntmps12
  go_wp2_with (first | (go_at_call 31; refine HNO.out.mono ?_; rintro e w' ⟨rfl, rfl⟩))
  go_loopw [15, 5] (fun i z wr => ∃ k : Nat, k ≤ C.length ∧ i = .int .i64 (k : Nat) ∧ z = .int .i64 (weigh (C.take k) : Nat) ∧ Below w.heap.size w wr) (fun i _ _ => C.length - (RowKit.intOf i).toNat)
  case atStart => exact ⟨0, Nat.zero_le _, rfl, rfl, Below.refl _ _⟩
  case round =>
    obtain ⟨k, hk, rfl, rfl, hb⟩ := hrel
    have HB := Lib.hid hb
    by_cases hkn : k < C.length
    · have hkz : (k : Int) < (C.length : Int) := by omega
      obtain ⟨a2, cap2, e, -, -, h3⟩ := HV.out.below hb
      obtain ⟨rfl, -, rfl⟩ := Value.slice.inj e
      obtain ⟨g, off, rfl, hcell⟩ : ∃ g off, a = some ⟨g, off, none⟩ ∧ ∀ i (h : i < C.length), ∃ ka kl kc va vl vc,
          wr.cell? ⟨g, off + i * 3, none⟩ = some (.slice ka kl kc) ∧ wr.cell? ⟨g, off + i * 3 + 1, none⟩ = some (.slice va vl vc) ∧ wr.cell? ⟨g, off + i * 3 + 2, none⟩ = some (.bool C[i].drop) ∧ RowB wr (.slice ka kl kc) C[i].key ∧ RowB wr (.slice va vl vc) C[i].val := by
        rcases h3 with h3 | h3
        · rw [h3] at hkn; simp at hkn
        · exact h3
      obtain ⟨ka, kl, kc, va, vl, vc, c0, c1, c2, r1, r2⟩ := hcell k hkn
      have hkl : C[k].key.length = kl := by obtain ⟨_, _, _, e, h, _⟩ := r1; obtain ⟨-, rfl, -⟩ := Value.slice.inj e; exact h
      have hvl : C[k].val.length = vl := by obtain ⟨_, _, _, e, h, _⟩ := r2; obtain ⟨-, rfl, -⟩ := Value.slice.inj e; exact h
      obtain ⟨m, hm⟩ : ∃ m, weigh (C.take k) = m := ⟨_, rfl⟩
      have HNX : Hid (weigh (C.take (k + 1)) = m + (kl + vl)) := Lib.hid (by
        rw [List.take_succ_eq_append_getElem hkn, weigh_append, hm]
        simp [weigh, hkl, hvl])
      have hkk := HC.out.2.2.2.1 _ (List.getElem_mem hkn)
      rw [hkl] at hkk
      have hdw : m + (kl + vl) ≤ 61440 := by
        have h1 := weigh_at C k hkn
        rw [hm, hkl, hvl] at h1
        have := HC.out.2.2.1
        omega
      have g1 : ¬ (kl : Int) = 0 := by omega
      have g2 : ¬ (64 : Int) < (kl : Int) := by omega
      have g3 : (m : Int) + ((kl : Int) + (vl : Int)) ≤ 61440 := by omega
      have g4 : decide ((64 : Int) < (kl : Int)) = false := decide_eq_false g2
      have g5 : ((kl : Int) == 0) = false := by simp; omega
      have HKN := Lib.hid hkn
      generalize C[k].drop = dd at *
      rw [hm]
      clear h3 hcell e r1 r2 hkl hvl hm hkk hdw hb
      go_upto_region 7 with (fail)
      have HX5 := Lib.hid (heap_alloc_new wr (.cells #[.slice ka kl kc, .slice va vl vc, .bool dd] 35))
      have HB5 : Hid (Below w.heap.size w (wr.alloc (.cells #[.slice ka kl kc, .slice va vl vc, .bool dd] 35))) := Lib.hid (HB.out.alloc HB.out.size _)
      clear c0 c1 c2
      generalize wr.alloc (.cells #[.slice ka kl kc, .slice va vl vc, .bool dd] 35) = w5 at *
      generalize wr.heap.size = b5 at *
      have x0 := cell_of_row w5 b5 0 _ _ _ HX5.out
      have x1 := cell_of_row w5 b5 1 _ _ _ HX5.out
      simp only [List.getElem?_toArray, List.getElem?_cons_zero, List.getElem?_cons_succ] at x0 x1
      go_wp2_with fail
      go_roundw
      case rel => exact ⟨k + 1, HKN.out, by go_num, by rw [HNX.out]; go_num, HB5.out⟩
      case measure => simp [intOf]; omega
    · obtain rfl : k = C.length := by omega
      rw [List.take_length]
      obtain ⟨hC0, hC, hw, hkey, hd, hB, hN, hroom, hring, hP, hkk⟩ := HC.out
      have hlen : ∀ c ∈ C, c.key.length ≤ 1000000 ∧ c.val.length ≤ 1000000 := by
        intro c hc
        obtain ⟨j, hj, rfl⟩ := List.getElem_of_mem hc
        have := weigh_at C j hj
        omega
      have HCP := Lib.hid (copies_any (HV.out.below hb) (by omega) hlen)
      have HTB := Lib.hid (HT.out.below hb)
      have HWB : Hid (B ≤ wr.heap.size) := Lib.hid (Nat.le_trans hB hb.size)
      obtain ⟨wt, hwt⟩ : ∃ x, weigh C = x := ⟨_, rfl⟩
      rw [hwt]
      rw [hwt] at hwz
      have hgt : ¬ (61440 : Int) < (wt : Int) := by omega
      have hgd : decide ((61440 : Int) < (wt : Int)) = false := decide_eq_false hgt
      have hg4 : ¬ (400 : Int) < (C.length : Int) := by omega
      clear hb hC0 hC hw hkey hd hB hN hroom hring hP hkk hlen hwt
      go_upto_region 16 with (first | (go_at_call 33; refine HCP.out.mono ?_; rintro e w5 ⟨o5, L, rfl, hcr, hlm, hb5⟩; have HCR := Lib.hid hcr; have HLM := Lib.hid hlm; have HB5 := Lib.hid hb5; clear hcr hlm hb5))
      have hown : L.map Ch.of = C := by
        rw [HLM.out]
        have : C.map Chg.own = C.map id := List.map_congr_left fun c hc => by
          have := HC.out.2.2.2.2.1 c hc
          unfold Chg.own
          rw [this]
          obtain ⟨a, b, d⟩ := c
          simp at this
          simp [this]
        rw [this, List.map_id]
      have HOW := Lib.hid hown
      obtain ⟨oa, oc, rfl⟩ := own_shape HCR.out.row
      have HWR := Lib.hid (twrite_any (HTB.out.below HB5.out) (C := C) (by rw [← hown]; exact HCR.out.chgV) HC.out.2.1 HC.out.2.2.1 N HC.out.2.2.2.2.2.2.1 HC.out.2.2.2.2.2.2.2.1 HC.out.2.2.2.2.2.2.2.2.1)
      clear hown
      go_upto_region 19 with (first | (go_at_call 34; refine HWR.out.mono ?_; rintro e w6 ⟨rfl, ht6, hl6⟩; have HT6 := Lib.hid ht6; have HL6 := Lib.hid hl6; clear ht6 hl6))
      have HT6b := Lib.hid HT6.out
      obtain ⟨st6, ⟨cost6, pv6, L6, htv6, -⟩, -⟩ := HT6.out
      obtain ⟨t0, -, -, -⟩ := htv6.cells
      clear st6 htv6
      have HSY := Lib.hid (sync_t HT6b.out)
      go_upto_region 22 with (first | (go_at_call 32; refine HSY.out.mono ?_; rintro e w7 ⟨rfl, ht7, hl7⟩; have HT7 := Lib.hid ht7; have HL7 := Lib.hid hl7; clear ht7 hl7))
      have hLC : L.length = C.length := by rw [← HOW.out]; simp
      have hpair : ∀ M : List Ch, M.map Ch.pair = (M.map Ch.of).map fun c => (c.key, c.val) := fun M => by rw [List.map_map]; rfl
      have HAP := Lib.hid (apply_end HT7.out (L := L) ((((HCR.out.lt HL6.out).lt HL7.out).mono HWB.out)) (fun x hx => by
          have h1 : x.of ∈ C := by rw [← HOW.out]; exact List.mem_map_of_mem hx
          exact HC.out.2.2.2.2.1 _ h1) (Nat.le_trans HWB.out (Nat.le_trans HB5.out.size (Nat.le_trans HL6.out.size HL7.out.size))) (by have := HC.out; omega) (fun j hj x hx => by
          have hj2 : j < C.length := by omega
          have e1 : C[j].key = L[j].key := by
            have : C[j] = (L.map Ch.of)[j]'(by simpa using hj) := by simp only [HOW.out]
            rw [this, List.getElem_map]
            rfl
          have e2 : (L.take j).map Ch.pair = (C.take j).map fun c => (c.key, c.val) := by
            rw [hpair]
            congr 1
            rw [List.map_take, HOW.out]
          rw [e2] at hx
          rw [← e1]
          exact HC.out.2.2.2.2.2.2.2.2.2.2 j hj2 x hx))
      have hfin : P ++ L.map Ch.pair = P ++ C.map fun c => (c.key, c.val) := by rw [hpair, HOW.out]
      rw [hfin] at HAP
      clear t0 hLC hpair hfin
      go_wp2_with (first | (go_at_call 29; refine HAP.out.mono ?_; rintro e w8 ⟨rfl, ht8, hl8⟩; have HT8 := Lib.hid ht8; have HL8 := Lib.hid hl8; clear ht8 hl8))
      go_ret
      exact ⟨rfl, HT8.out, (((Below.lt HB.out).trans (Below.lt HB5.out)).trans HL6.out).trans (HL7.out.trans HL8.out)⟩
end
section
set_option linter.unusedVariables false
open Go.RowKit

set_option maxRecDepth 100000 in
set_option maxHeartbeats 4000000 in
theorem topen_fresh {B : Nat} {w0 w : World} {pd n : Nat} {kv : Value} (h : Held B w0 w pd kv (List.replicate n (zeros 64)) [] 0 false) (hn : 3 ≤ n) (hn2 : n ≤ 65536) :
    Calls Try.prog 8 #[.pointer (some ⟨pd, 0, none⟩)] w fun e w' => ∃ pt pl, e = .returned (.tuple #[.pointer (some ⟨pt, 0, none⟩), .int .i64 0]) ∧ Tb B w0 w' pt pl pd kv (n - 2) 0 n [] ∧ Below w.heap.size w w' := by
  have HOP := Lib.hid (open_fresh h hn hn2)
  have HFF := Lib.hid (Fit.fresh n hn hn2)
  have HN : Hid (3 ≤ n ∧ n ≤ 65536 ∧ B ≤ w.heap.size) := Lib.hid ⟨hn, hn2, Nat.le_trans h.base h.below.size⟩
  clear h hn hn2
  go_enter Try.func8, Try.ntmps8
  go_wp2_with fail
  refine HOP.out.mono ?_
  rintro e w1 ⟨pl, rfl, hl1, -, hb1⟩
  have HL1 := Lib.hid hl1
  have HB1 := Lib.hid hb1
  have HSZ : Hid (Calls Try.prog 26 #[.pointer (some ⟨pd, 0, none⟩)] w1 fun e w' => e = .returned (.int .i64 (n : Nat)) ∧ w1 = w') := Lib.hid (by
    obtain ⟨wv, mv, hdk, _⟩ := hl1.disk.dk
    have := size_ok hdk
    rwa [List.length_replicate] at this)
  clear hl1 hb1
  go_upto_region 5 with (first | (go_at_call 26; refine HSZ.out.mono ?_; rintro e w' ⟨rfl, rfl⟩))
  have HX := Lib.hid (heap_alloc_new w1 (.cells #[.pointer (some ⟨pl, 0, none⟩), .int .i64 (n : Nat), .int .i64 0, .slice none 0 0] 68))
  have hA : Below w1.heap.size w1 (w1.alloc (.cells #[.pointer (some ⟨pl, 0, none⟩), .int .i64 (n : Nat), .int .i64 0, .slice none 0 0] 68)) := (Below.refl _ _).alloc (Nat.le_refl _) _
  have HL2 := Lib.hid (HL1.out.below hA)
  have HB2 := Lib.hid (HB1.out.trans (hA.mono HB1.out.size))
  have HPT : Hid (w.heap.size ≤ w1.heap.size) := Lib.hid HB1.out.size
  clear hA
  generalize w1.alloc (.cells #[.pointer (some ⟨pl, 0, none⟩), .int .i64 (n : Nat), .int .i64 0, .slice none 0 0] 68) = w2 at *
  generalize w1.heap.size = pt at *
  have HRC := Lib.hid (HL2.out.records (Nat.zero_le _) (fun x hx => by cases hx))
  go_wp2_with (first | (go_at_call 27; refine HRC.out.mono ?_; rintro e w3 ⟨o, M, rfl, hm, hmd, hb3⟩
                        have HB3 := Lib.hid hb3
                        obtain ⟨oa, oc, ho⟩ := own_shape hm.row
                        have hM0 : M.length = 0 := by have := congrArg List.length hmd; simpa [frS] using this
                        rw [hM0] at ho
                        subst ho
                        clear hm hmd hb3 hM0))
  go_loopw [27] (fun i wr => i = .int .i64 0 ∧ wr = w3) (fun i _ => 0)
  case atStart => exact ⟨rfl, rfl⟩
  case round =>
    obtain ⟨rfl, rfl⟩ := hrel
    rename World => w3
    go_wp2_with fail
    refine bodyPost_ret (v := .tuple #[.pointer (some ⟨pt, 0, none⟩), .int .i64 0]) (by simp [results, Try.results8, go_sem]) rfl ?_
    have htv : TbV w2 pt (.pointer (some ⟨pl, 0, none⟩)) n 0 (.slice none 0 0) := HX.out
    refine ⟨pt, pl, rfl, ⟨⟨_, _, _, HL2.out.below HB3.out, HFF.out, rfl, Nat.zero_le _, Nat.le_refl _, Nat.zero_le _, Nat.zero_le _⟩, ⟨0, _, [], htv.below HB3.out, Nat.zero_le _, ⟨World.ownsRow_nil _ _ _ _, fun _ h => by cases h⟩, rfl⟩, Nat.le_trans HN.out.2.2 HPT.out, Nat.zero_le _⟩, HB2.out.trans (HB3.out.mono HB2.out.size)⟩

theorem Tb.parts {B : Nat} {w0 w : World} {pt pl pd : Nat} {kv : Value} {ring u sec : Nat} {P : List (List Nat × List Nat)} (h : Tb B w0 w pt pl pd kv ring u sec P) :
    ∃ cost pv, TbV w pt (.pointer (some ⟨pl, 0, none⟩)) sec cost pv ∧ PairV w pv P := by
  obtain ⟨_, ⟨cost, pv, L, ht, _, hr, hm⟩, _⟩ := h
  exact ⟨cost, pv, ht, by rw [← hm]; exact hr.pairV⟩
set_option maxRecDepth 100000 in
set_option maxHeartbeats 4000000 in
theorem len_any {B : Nat} {w0 w : World} {pt pl pd : Nat} {kv : Value} {ring u sec : Nat} {P : List (List Nat × List Nat)} (h : Tb B w0 w pt pl pd kv ring u sec P) :
    Calls Try.prog 22 #[.pointer (some ⟨pt, 0, none⟩)] w fun e w' => e = .returned (.int .i64 (P.length : Nat)) ∧ w = w' := by
  obtain ⟨cost, pv, ht, a, cap, rfl, -⟩ := h.parts
  obtain ⟨-, -, -, t3⟩ := ht.cells
  clear h ht
  go_enter Try.func22, Try.ntmps22
  go_wp2_with fail
  go_ret
  exact ⟨rfl, rfl⟩
set_option maxRecDepth 100000 in
set_option maxHeartbeats 4000000 in
theorem get_yes {B : Nat} {w0 w : World} {pt pl pd : Nat} {kv : Value} {ring u sec : Nat} {P : List (List Nat × List Nat)} (h : Tb B w0 w pt pl pd kv ring u sec P) {vk : Value} {key : List Nat} (hk : RowB w vk key) (hP : P.length ≤ 10000)
    (c : Nat) {val : List Nat} (hx : P[c]? = some (key, val)) (hm : ∀ i (h : i < P.length), decide (0 ≤ cmpL P[i].1 key) = decide (c ≤ i)) (hl : val.length ≤ 1000000) :
    Calls Try.prog 17 #[.pointer (some ⟨pt, 0, none⟩), vk] w fun e w' => ∃ o, e = .returned (.tuple #[o, .bool true]) ∧ OwnB w' w.heap.size o val ∧ Below w.heap.size w w' := by
  obtain ⟨cost, pv, ht, hv⟩ := h.parts
  obtain ⟨hc, hx2⟩ := List.getElem?_eq_some_iff.1 hx
  have HPL := Lib.hid (place_any ht hv hk (by omega) c (Nat.le_of_lt hc) hm)
  have hd : decide (P[c]?.map (·.1) = some key) = true := by
    rw [hx]
    simp
  rw [hd] at HPL
  have HT := Lib.hid ht
  have HV := Lib.hid hv
  obtain ⟨sa, sl, sc, rfl, -⟩ := id hk
  have hcz : (c : Int) < (P.length : Int) := by omega
  have HC := Lib.hid hc
  have HX := Lib.hid hx2
  have HLV := Lib.hid hl
  obtain ⟨a, cap, rfl, -, -, -⟩ := id hv
  clear h ht hv hk hm hd hx hl
  have HCC := Lib.hid (show ∀ (h : c < P.length), P[c] = (key, val) from fun _ => hx2)
  clear HX hx2 hc
  go_enter Try.func17, Try.ntmps17
  go_upto_region 6 with (first | (go_at_call 36; refine HPL.out.mono ?_; rintro e w1 ⟨rfl, hb1⟩; have HB1 := Lib.hid hb1; clear hb1))
  obtain ⟨a2, cap2, e, -, -, h3⟩ := HV.out.below HB1.out
  obtain ⟨rfl, -, rfl⟩ := Value.slice.inj e
  obtain ⟨g, rfl, hcell⟩ : ∃ g, a = some ⟨g, 0, none⟩ ∧ ∀ i (h : i < P.length), ∃ ka kl kc va vl vc,
      w1.cell? ⟨g, i * 2, none⟩ = some (.slice ka kl kc) ∧ w1.cell? ⟨g, i * 2 + 1, none⟩ = some (.slice va vl vc) ∧ RowB w1 (.slice ka kl kc) P[i].1 ∧ RowB w1 (.slice va vl vc) P[i].2 := by
    rcases h3 with h3 | h3
    · have := HC.out; rw [h3] at this; simp at this
    · exact h3
  obtain ⟨ka, kl, kc, va, vl, vc, -, c1, -, r2⟩ := hcell c HC.out
  rw [HCC.out HC.out] at r2
  obtain ⟨-, -, -, t3⟩ := (HT.out.below HB1.out).cells
  have HCL := Lib.hid (bclone_any _ _ w1 r2 (Nat.le_trans HLV.out (by decide)))
  clear h3 hcell e r2
  go_wp2_with (first | (go_at_call 37; refine HCL.out.mono ?_; rintro e w2 ⟨o, rfl, ho, hb2⟩; obtain ⟨oa, oc, rfl⟩ := ho.shape; have HO := Lib.hid ho; have HB2 := Lib.hid hb2; clear ho hb2))
  exact bodyPost_ret (v := .tuple #[.slice oa _ oc, .bool true]) (by simp [results, Try.results17, go_sem]) rfl ⟨_, rfl, owns_mono HO.out HB1.out.size, HB1.out.trans (HB2.out.mono HB1.out.size)⟩
set_option maxRecDepth 100000 in
set_option maxHeartbeats 4000000 in
theorem get_no {B : Nat} {w0 w : World} {pt pl pd : Nat} {kv : Value} {ring u sec : Nat} {P : List (List Nat × List Nat)} (h : Tb B w0 w pt pl pd kv ring u sec P) {vk : Value} {key : List Nat} (hk : RowB w vk key) (hP : P.length ≤ 10000)
    (c : Nat) (hc : c ≤ P.length) (hm : ∀ i (h : i < P.length), decide (0 ≤ cmpL P[i].1 key) = decide (c ≤ i)) (he : decide (P[c]?.map (·.1) = some key) = false) :
    Calls Try.prog 17 #[.pointer (some ⟨pt, 0, none⟩), vk] w fun e w' => e = .returned (.tuple #[.slice none 0 0, .bool false]) ∧ Below w.heap.size w w' := by
  obtain ⟨cost, pv, ht, hv⟩ := h.parts
  have HPL := Lib.hid (place_any ht hv hk (by omega) c hc hm)
  rw [he] at HPL
  obtain ⟨sa, sl, sc, rfl, -⟩ := id hk
  clear h ht hv hk hm he hc
  go_enter Try.func17, Try.ntmps17
  go_wp2_with (first | (go_at_call 36; refine HPL.out.mono ?_; rintro e w1 ⟨rfl, hb1⟩; have HB1 := Lib.hid hb1; clear hb1))
  exact bodyPost_ret (v := .tuple #[.slice none 0 0, .bool false]) (by simp [results, Try.results17, go_sem]) rfl ⟨rfl, HB1.out⟩
end
section
set_option linter.unusedVariables false
open Go.RowKit

set_option maxRecDepth 100000 in
set_option maxHeartbeats 4000000 in
theorem cbytes_any {w : World} {v : Value} {l : List Nat} (h : RowB w v l) (hl : l.length ≤ 1000000) : Calls Try.prog 19 #[v] w fun e w' => ∃ o, e = .returned o ∧ OwnB w' w.heap.size o l ∧ Below w.heap.size w w' := by
  have HH := Lib.hid h
  obtain ⟨a, n, c, rfl, -⟩ := h
  go_enter Try.func19, Try.ntmps19
  go_wp2_with (at_builtin; refine appR (v := .slice none 0 0) (l := []) rfl (.const (.slice none 0 0)) (.tmp 3) rfl (World.ownsRow_nil _ _ _ _) HH.out (Below.refl _ _) (Nat.le_refl _) rfl rfl (by simp; omega) ?_)
  intro ao co n D w2 hD ho hb _
  have HD := Lib.hid hD.out.1
  have HO : Hid (OwnB w2 w.heap.size (.slice ao n co) D) := Lib.hid ho
  have HB := Lib.hid hb
  clear hD ho hb
  go_wp2_with fail
  go_ret
  have hl2 := HO.out
  rw [HD.out] at hl2
  exact ⟨_, rfl, hl2, HB.out⟩
set_option maxRecDepth 100000 in
set_option maxHeartbeats 4000000 in
theorem spoil_any {w : World} {B : Nat} {v : Value} {L : List Nat} (ho : OwnB w B v L) (hL : L.length ≤ 1000000) :
    Calls Try.prog 18 #[v] w fun e w' => e = .returned (.tuple #[]) ∧ Beside (fun k => v.ownBlock = some k) w w' := by
  obtain ⟨oa, c, e⟩ := ho.shape
  subst e
  by_cases h0 : L.length = 0
  · obtain rfl := List.eq_nil_of_length_eq_zero h0
    clear ho
    go_enter Try.func18, Try.ntmps18
    go_wp2_with fail
    go_loopw [2] (fun i wr => i = .int .i64 0 ∧ wr = w) (fun _ _ => 0)
    case atStart => exact ⟨rfl, rfl⟩
    case round =>
      obtain ⟨rfl, rfl⟩ := hrel
      go_wp2_with fail
      exact bodyPost_end (v := .tuple #[]) (by simp [results, Try.results18, go_sem]) rfl ⟨rfl, Beside.refl _ _⟩
  · obtain ⟨g, cap, e, -, -⟩ := ho.some (by omega)
    obtain ⟨rfl, -, rfl⟩ := Value.slice.inj e
    have HO := Lib.hid ho
    have HL := Lib.hid hL
    clear ho e h0 hL
    obtain ⟨n, hn⟩ : ∃ n, L.length = n := ⟨_, rfl⟩
    rw [hn] at HO
    rw [hn]
    have HN := Lib.hid hn
    clear hn
    have hn1 : n ≤ 1000000 := by have := HL.out; have := HN.out; omega
    go_enter Try.func18, Try.ntmps18
    go_wp2_with fail
    go_loopw [2] (fun i wr => ∃ (p : Nat) (M : List Nat), p ≤ n ∧ i = .int .i64 (p : Int) ∧ M.length = n ∧ OwnB wr B (.slice (some ⟨g, 0, none⟩) n c) M ∧ Beside (fun k => k = g) w wr) (fun i _ => n - (RowKit.intOf i).toNat)
    case atStart => exact ⟨0, L, Nat.zero_le _, rfl, HN.out, HO.out, Beside.refl _ _⟩
    case round =>
      obtain ⟨p, M, hp, rfl, hM, hown, hbes⟩ := hrel
      by_cases hlt : p < n
      · have hpM : p < M.length := by omega
        have hcell := hown.cell hM.symm p hpM
        have hfree := hown.free hM.symm p
        have HO1 := Lib.hid hown
        have HB := Lib.hid hbes
        have HM := Lib.hid hM
        have hpi : (p : Int) < (n : Int) := by omega
        have HP := Lib.hid hlt
        clear hown hbes hM hlt hp
        generalize M[p] = x at *
        obtain ⟨m, hbx⟩ := bits_xor x
        have HS := Lib.hid (HO1.out.set HM.out.symm p m)
        have HT := Lib.hid (HB.out.setCell (p := ⟨g, p, none⟩) (.inl rfl) (.int .u8 (m : Nat)))
        go_wp2_with fail
        go_roundw
        case rel => exact ⟨p + 1, M.set p m, HP.out, by go_num, by rw [List.length_set]; exact HM.out, by first | exact HS.out | (rw [hbx]; exact HS.out), by first | exact HT.out | (rw [hbx]; exact HT.out)⟩
        case measure => simp [intOf]; omega
      · have hpi : ¬ (p : Int) < (n : Int) := by omega
        have HB := Lib.hid hbes
        clear hown hbes
        go_wp2_with fail
        refine bodyPost_end (v := .tuple #[]) (by simp [results, Try.results18, go_sem]) rfl ⟨rfl, HB.out.mono (fun k _ e => by rw [e]; rfl)⟩
end
end Go.Proofs.Ytmnbkhgogogeiaa
