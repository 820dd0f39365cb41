/-
  The program's reader of base 64, at every text.
-/
import Derived.Test.YtcddppgnmephnaaDoorFarP
import Derived.BigCall
namespace Go.Proofs.YtcddppgnmephnaaDoor
set_option linter.unusedVariables false
open Go.RowKit Go.Lib

/-- what far answers -/
def FarE (l : List UInt8) (e : Ending) : Prop := ∃ t, e = .returned (.tuple #[.string t, .bool (farD l).isSome]) ∧ ∀ x, farD l = some x → t = strL x ∧ x.length ≤ 4 * l.length
theorem farE_none (l : List UInt8) (t : ByteArray) (h : farR r0 (runesD l) = none) : FarE l (.returned (.tuple #[.string t, .bool false])) := by
  refine ⟨t, by rw [farD_none l h]; rfl, fun x hx => ?_⟩
  rw [farD_none l h] at hx
  cases hx

set_option maxHeartbeats 4000000 in
set_option maxRecDepth 100000 in
theorem fard_any (code : ByteArray) (hs : code.size ≤ 100000) (w : World) :
    Calls Tryd.prog 36 #[.string code] w fun e w' => FarE code.data.toList e ∧ Below w.heap.size w w' := by
  go_enter Tryd.func36, Tryd.ntmps36
  go_wp2
  obtain ⟨w2, hw2⟩ : ∃ w2, w2 = w.alloc (.cells #[.pointer none, .slice none 0 0] 33) := ⟨_, rfl⟩
  have hI2 : IsBuilderF 33 5 w.heap.size w.heap.size (byteCells []) w2 := by rw [hw2]; exact IsBuilderF.of (Lib.fresh_isBuilder 33 5 w)
  have hB2 : Below w.heap.size w w2 := by rw [hw2]; exact (Below.refl _ _).alloc (Nat.le_refl _) _
  have hs2 : w2.heap.size = w.heap.size + 1 := by rw [hw2]; simp
  rw [← hw2]
  clear hw2
  obtain ⟨p, hp⟩ : ∃ p, w.heap.size = p := ⟨_, rfl⟩
  rw [hp] at hI2 hB2 hs2 ⊢
  go_loopw [5, 6, 7] (fun i5 i6 i7 wr => ∃ (pos : Nat) (s : Rd), i5 = .int .u32 s.wait ∧ i6 = .int .u32 s.first ∧ i7 = .int .i64 s.waiting ∧ IsBuilderF 33 5 p p (byteCells s.out) wr ∧ wr.heap[p + 1]? = some (.stringIter code pos) ∧ Below p w wr ∧ RdG s ∧ farR s (runesD (code.data.toList.drop pos)) = farR r0 (runesD code.data.toList) ∧ s.out.length ≤ 4 * pos ∧ pos ≤ code.size) (fun _ _ _ wr => code.size - wr.iterPos (p + 1))
  case atStart =>
    refine ⟨0, r0, rfl, rfl, rfl, hI2.alloc _, ?_, hB2.alloc (by omega) _, rdg0, by simp, by simp [r0], by omega⟩
    have := World.iter_heap w2 code 0
    rw [hs2] at this
    simpa using this
  case round =>
    obtain ⟨pos, ⟨o, f, a, b⟩, rfl, rfl, rfl, hbl, hit, hbw, hg, hf, hl, hps⟩ := hrel
    obtain ⟨hg1, hg2, hg3⟩ := hg
    simp only at hg1 hg2 hg3 hl hbl
    have hsz2 : p + 1 < wr.heap.size := (Array.getElem?_eq_some_iff.1 hit).1
    by_cases hlt : pos < code.size
    · have hnx : ∀ ty, (Instr.next (.pointer (some ⟨p + 1, 0, none⟩)) true ty).run Tryd.prog wr = _ := fun ty => Lib.run_next_any_at wr (p + 1) code pos ty hit hlt
      have hne : code.data.toList.drop pos ≠ [] := by
        intro e
        have := congrArg List.length e
        rw [List.length_drop, ← Lib.size_eq] at this
        simp at this
        omega
      have hdd := decodeL_drop code pos
      have hok := decodeL_okR (code.data.toList.drop pos)
      have hwl := decodeL_le (code.data.toList.drop pos) hne
      have hw1 := decodeL_width (code.data.toList.drop pos)
      rw [List.length_drop, ← Lib.size_eq] at hwl
      rw [runesD_step _ hne, List.drop_drop] at hf
      rw [hdd] at hok hwl hw1 hf
      obtain ⟨R, hR⟩ : ∃ R, (Utf8.decode code pos).1 = R := ⟨_, rfl⟩
      obtain ⟨D, hD⟩ : ∃ D, (Utf8.decode code pos).2 = D := ⟨_, rfl⟩
      rw [hR] at hok hf hnx
      rw [hD] at hwl hw1 hf hnx
      obtain ⟨q, hq⟩ : ∃ q, pos + D = q := ⟨_, rfl⟩
      rw [hq] at hf hnx
      have hq1 : q ≤ code.size := by omega
      have hql : 4 * pos + 4 ≤ 4 * q := by omega
      have hb2 := hbl.iterAt hit q
      have hit2 := Lib.iterAt_heap wr (p + 1) code pos q hit
      have hbw2 := Lib.below_iterAt hbw (k := p + 1) (by omega) code q
      have hsz3 : p + 1 < (wr.iterAt (p + 1) code q).heap.size := (Array.getElem?_eq_some_iff.1 hit2).1
      have hip : wr.iterPos (p + 1) = pos := by simp only [World.iterPos, hit]
      have hqp : pos < q := by omega
      have hidx := idx_any R hok (wr.iterAt (p + 1) code q)
      generalize wr.iterAt (p + 1) code q = w3 at *
      have HIP := Lib.hid (And.intro hip hqp)
      clear hbl hit hbw hdd hR hD hw1 hip hps hs2 hI2 hB2
      unfold idxV at hidx
      cases hd : digVal R with
      | none =>
        rw [hd] at hidx
        rw [farR_none _ R _ hd] at hf
        have HF := Lib.hid hf.symm
        have HB := Lib.hid hbw2
        clear hf hbw2 hb2 hit2 hd
        go_wp2_with (go_at_call 42; refine hidx.mono ?_; rintro e w4 ⟨rfl, hb4⟩)
        go_ret2
        exact ⟨farE_none _ _ HF.out, by rw [hp]; exact HB.out.trans (hb4.mono (by omega))⟩
      | some d =>
        rw [hd] at hidx
        have hd64 := digVal_lt R d hd
        have hd0 : (d : Int) ≤ 63 := by omega
        have HST := Lib.hid (fun t (h : dS ⟨o, f, a, b⟩ d = some t) => (farR_step _ t R d _ hd h).symm.trans hf)
        have HDE := Lib.hid (fun (h : dS ⟨o, f, a, b⟩ d = none) => hf.symm.trans (farR_dead _ R d _ hd h))
        have HB := Lib.hid hbw2
        have HI := Lib.hid (And.intro hb2 hit2)
        have hg2' : a < 65536 := Nat.lt_of_lt_of_le hg2 (by
          have := Nat.pow_le_pow_right (n := 2) (by decide) (show b ≤ 16 by omega)
          simpa using this)
        obtain ⟨V, hV⟩ : ∃ V, a * 64 + d = V := ⟨_, rfl⟩
        have hor := or64 a d hg2' hd64
        rw [hV] at hor
        obtain ⟨c, hc⟩ : ∃ c, b + 6 = c := ⟨_, rfl⟩
        have hbc : (b : Int) + 6 = (c : Int) := by omega
        clear hf hbw2 hb2 hit2 hd
        by_cases hsm : b + 6 < 16
        · have hc16 : (c : Int) < 16 := by omega
          have HG := Lib.hid (show RdG ⟨o, f, V, c⟩ from ⟨by simp only; omega, by
            simp only
            rw [← hc, Nat.pow_add, show 2 ^ 6 = 64 from rfl, ← hV]
            omega, hg3⟩)
          have HS := HST.out _ (dS_small o f a b d hsm)
          rw [hV, hc] at HS
          have HS' := Lib.hid HS
          clear HS HST HDE hg1 hg2 hg3 hV hc hok
          go_wp2_with (go_at_call 42; refine hidx.mono ?_; rintro e w4 ⟨rfl, hb4⟩; have hsz4 := hb4.size; have HB4 := Lib.hid hb4; clear hb4)
          go_roundw
          case rel =>
            refine ⟨q, ⟨o, f, V, c⟩, rfl, rfl, rfl, bldF_below HI.out.1 HB4.out, (HB4.out.block (p + 1) (by omega)).trans HI.out.2, HB.out.trans (HB4.out.mono (by omega)), HG.out, HS'.out, (show o.length ≤ 4 * q by omega), hq1⟩
          case measure =>
            have h1 := (HB4.out.block (p + 1) (by omega)).trans HI.out.2
            have h2 := HIP.out
            simp only [World.iterPos] at h2 ⊢
            rw [h1]
            simp only
            omega
        · obtain ⟨m, hm⟩ : ∃ m, c - 16 = m := ⟨_, rfl⟩
          have hcm : (c : Int) - 16 = (m : Int) := by omega
          have hc16 : ¬ ((c : Int) < 16) := by omega
          obtain ⟨v, hv⟩ : ∃ v, V / 2 ^ m = v := ⟨_, rfl⟩
          obtain ⟨X, hX⟩ : ∃ X, V % 2 ^ m = X := ⟨_, rfl⟩
          have hm6 : m < 6 := by omega
          have hpm : 2 ^ m ≤ 32 := by
            have := Nat.pow_le_pow_right (n := 2) (by decide) (show m ≤ 5 by omega)
            simpa using this
          have hone : 1 ≤ 2 ^ m := Nat.one_le_two_pow
          have e1 : (2 : Int) ^ m = ((2 ^ m : Nat) : Int) := by simp
          have hw1 : IntKind.u32.wrap ((2 : Int) ^ m) = (2 : Int) ^ m := IntWalk.u32_in _ (by rw [e1]; omega)
          have hw2 : IntKind.u32.wrap ((2 : Int) ^ m - 1) = (2 : Int) ^ m - 1 := IntWalk.u32_in _ (by rw [e1]; omega)
          have hVlt : V < 4194304 := by omega
          have key : bits .and .u32 (V : Int) ((2 : Int) ^ m - 1) = (X : Int) := by
            rw [show (2 : Int) ^ m - 1 = ((2 ^ m - 1 : Nat) : Int) by rw [e1]; omega, u32_and_nat V _ (by omega) (by omega), Nat.and_two_pow_sub_one_eq_mod, hX]
          have hvz : (V : Int) / 2 ^ m = (v : Int) := by rw [e1, ← hv]; omega
          have hV16 : V < 2 ^ m * 65536 := by
            have e2 : 2 ^ m * 65536 = 2 ^ b * 64 := by
              rw [show 65536 = 2 ^ 16 from rfl, show 64 = 2 ^ 6 from rfl, ← Nat.pow_add, ← Nat.pow_add]
              congr 1
              omega
            rw [e2, ← hV]
            omega
          have hv16 : v < 65536 := by
            rw [← hv]
            exact Nat.div_lt_of_lt_mul hV16
          have hX2 : X < 2 ^ m := by rw [← hX]; exact Nat.mod_lt _ (by omega)
          have hds := dS_unit o f a b d V m v X (by omega) hV (by omega) hv hX
          have HDS := Lib.hid hds
          have HG := Lib.hid (And.intro hm6 hX2)
          clear hds hv hX hV hV16 hpm hone e1 hX2 hc hm hsm hg1 hg2 hok
          go_upto_region 17 with (go_at_call 42; refine hidx.mono ?_; rintro e w4 ⟨rfl, hb4⟩; have hsz4 := hb4.size; have HB4 := Lib.hid (And.intro (HB.out.trans (hb4.mono (show p ≤ w3.heap.size by omega))) (And.intro (bldF_below HI.out.1 hb4) ((hb4.block (p + 1) (by omega)).trans HI.out.2))); clear hb4)
          clear hor hbc hcm hc16 hw1 hw2 key hvz hd0 hidx
          rcases uS_cases f v hg3 with ⟨c1, c2⟩ | ⟨c1, c2⟩ | ⟨c1, c2, c3⟩ | ⟨c1, c2⟩ | ⟨c1, c2, c3⟩ | ⟨c1, c2, c3⟩ | ⟨c1, c2⟩
          · have z1 : ((f : Int) != 0) = true := by simp; omega
            have z2 : decide ((v : Int) < 56320) = true := decide_eq_true (by omega)
            have HN := Lib.hid (HDE.out (by rw [HDS.out, uS_A o f v c1 (.inl c2)]))
            go_wp2
            go_ret2
            exact ⟨farE_none _ _ HN.out, by first | exact HB4.out.1 | (rw [hp]; exact HB4.out.1)⟩
          · have z0 : ((f : Int) != 0) = true := by simp; omega
            have z1 : decide ((v : Int) < 56320) = false := decide_eq_false (by omega)
            have z2 : decide ((57344 : Int) ≤ (v : Int)) = true := decide_eq_true (by omega)
            have HN := Lib.hid (HDE.out (by rw [HDS.out, uS_A o f v c1 (.inr c2)]))
            go_wp2
            go_ret2
            exact ⟨farE_none _ _ HN.out, by first | exact HB4.out.1 | (rw [hp]; exact HB4.out.1)⟩
          · have z0 : ((f : Int) != 0) = true := by simp; omega
            have z1 : decide ((v : Int) < 56320) = false := decide_eq_false (by omega)
            have z2 : decide ((57344 : Int) ≤ (v : Int)) = false := decide_eq_false (by omega)
            obtain ⟨y1, hy1⟩ : ∃ y, f - 55296 = y := ⟨_, rfl⟩
            obtain ⟨y2, hy2⟩ : ∃ y, v - 56320 = y := ⟨_, rfl⟩
            obtain ⟨y3, hy3⟩ : ∃ y, y1 * 1024 + y2 = y := ⟨_, rfl⟩
            obtain ⟨y4, hy4⟩ : ∃ y, y3 + 65536 = y := ⟨_, rfl⟩
            have k1 : (f : Int) - 55296 = (y1 : Int) := by omega
            have k2 : (v : Int) - 56320 = (y2 : Int) := by omega
            have k3 := or1024 y1 y2 (by omega) (by omega)
            rw [hy3] at k3
            have k4 : (y3 : Int) + 65536 = (y4 : Int) := by omega
            have hy1l : y1 < 1024 := by omega
            have hy2l : y2 < 1024 := by omega
            have hy3l : y3 < 1048576 := by omega
            have HS := Lib.hid (HST.out _ (by rw [HDS.out, uS_B o f v c1 ⟨c2, c3⟩, hy1, hy2, hy3, hy4]))
            clear hy1 hy2 hy3
            have hwr := lwr_any p p (byteCells o) (y4 : Int) (by omega) (by omega) w4 HB4.out.2.1
            rw [byteCells_rune] at hwr
            have hwr2 := hwr (by rw [byteCells_length]; omega)
            have HW := Lib.hid hwr2
            clear hwr hwr2
            go_wp2_with (go_at_call 32; refine HW.out.mono ?_; rintro e w5 ⟨⟨x5, rfl⟩, h5, hb5, ho5⟩; have H5 := Lib.hid (And.intro h5 (And.intro hb5 (ho5.iter HB4.out.2.2 (by omega)))); clear h5 hb5 ho5)
            go_roundw
            case rel =>
              refine ⟨q, ⟨o ++ encodeRune (y4 : Int), 0, X, m⟩, rfl, rfl, rfl, .inr H5.out.1, H5.out.2.2, HB4.out.1.trans H5.out.2.1, ⟨by simp only; omega, HG.out.2, .inl rfl⟩, HS.out, ?_, hq1⟩
              have := encodeRune_len (y4 : Int)
              simp only [List.length_append]
              omega
            case measure =>
              have h2 := HIP.out
              simp only [World.iterPos] at h2 ⊢
              rw [H5.out.2.2]
              simp only
              omega
          · subst c1
            have z0 : ((v : Int) = (v : Int)) := rfl
            have z1 : decide ((55296 : Int) ≤ (v : Int)) = false := decide_eq_false (by omega)
            have z2 : decide ((56320 : Int) ≤ (v : Int)) = false := decide_eq_false (by omega)
            have HS := Lib.hid (HST.out _ (by rw [HDS.out, uS_E o v (.inl c2)]))
            have hwr := lwr_any p p (byteCells o) (v : Int) (by omega) (by omega) w4 HB4.out.2.1
            rw [byteCells_rune] at hwr
            have hwr2 := hwr (by rw [byteCells_length]; omega)
            have HW := Lib.hid hwr2
            clear hwr hwr2
            go_wp2_with (go_at_call 32; refine HW.out.mono ?_; rintro e w5 ⟨⟨x5, rfl⟩, h5, hb5, ho5⟩; have H5 := Lib.hid (And.intro h5 (And.intro hb5 (ho5.iter HB4.out.2.2 (by omega)))); clear h5 hb5 ho5)
            go_roundw
            case rel =>
              refine ⟨q, ⟨o ++ encodeRune (v : Int), 0, X, m⟩, rfl, rfl, rfl, .inr H5.out.1, H5.out.2.2, HB4.out.1.trans H5.out.2.1, ⟨by simp only; omega, HG.out.2, .inl rfl⟩, HS.out, ?_, hq1⟩
              have := encodeRune_len (v : Int)
              simp only [List.length_append]
              omega
            case measure =>
              have h2 := HIP.out
              simp only [World.iterPos] at h2 ⊢
              rw [H5.out.2.2]
              simp only
              omega
          · subst c1
            have z1 : decide ((55296 : Int) ≤ (v : Int)) = true := decide_eq_true (by omega)
            have z2 : decide ((v : Int) < 56320) = true := decide_eq_true (by omega)
            have HS := Lib.hid (HST.out _ (by rw [HDS.out, uS_C o v ⟨c2, c3⟩]))
            go_wp2
            go_roundw
            case rel =>
              exact ⟨q, ⟨o, v, X, m⟩, rfl, rfl, rfl, HB4.out.2.1, HB4.out.2.2, HB4.out.1, ⟨by simp only; omega, HG.out.2, .inr ⟨c2, c3⟩⟩, HS.out, (show o.length ≤ 4 * q by omega), hq1⟩
            case measure =>
              have h2 := HIP.out
              simp only [World.iterPos] at h2 ⊢
              rw [HB4.out.2.2]
              simp only
              omega
          · subst c1
            have z1 : decide ((55296 : Int) ≤ (v : Int)) = true := decide_eq_true (by omega)
            have z2 : decide ((v : Int) < 56320) = false := decide_eq_false (by omega)
            have z3 : decide ((56320 : Int) ≤ (v : Int)) = true := decide_eq_true (by omega)
            have z4 : decide ((v : Int) < 57344) = true := decide_eq_true (by omega)
            have HN := Lib.hid (HDE.out (by rw [HDS.out, uS_D o v ⟨c2, c3⟩]))
            go_wp2
            go_ret2
            exact ⟨farE_none _ _ HN.out, by first | exact HB4.out.1 | (rw [hp]; exact HB4.out.1)⟩
          · subst c1
            have z0 : ((v : Int) = (v : Int)) := rfl
            have z1 : decide ((55296 : Int) ≤ (v : Int)) = true := decide_eq_true (by omega)
            have z2 : decide ((v : Int) < 56320) = false := decide_eq_false (by omega)
            have z3 : decide ((56320 : Int) ≤ (v : Int)) = true := decide_eq_true (by omega)
            have z4 : decide ((v : Int) < 57344) = false := decide_eq_false (by omega)
            have HS := Lib.hid (HST.out _ (by rw [HDS.out, uS_E o v (.inr c2)]))
            have hwr := lwr_any p p (byteCells o) (v : Int) (by omega) (by omega) w4 HB4.out.2.1
            rw [byteCells_rune] at hwr
            have hwr2 := hwr (by rw [byteCells_length]; omega)
            have HW := Lib.hid hwr2
            clear hwr hwr2
            go_wp2_with (go_at_call 32; refine HW.out.mono ?_; rintro e w5 ⟨⟨x5, rfl⟩, h5, hb5, ho5⟩; have H5 := Lib.hid (And.intro h5 (And.intro hb5 (ho5.iter HB4.out.2.2 (by omega)))); clear h5 hb5 ho5)
            go_roundw
            case rel =>
              refine ⟨q, ⟨o ++ encodeRune (v : Int), 0, X, m⟩, rfl, rfl, rfl, .inr H5.out.1, H5.out.2.2, HB4.out.1.trans H5.out.2.1, ⟨by simp only; omega, HG.out.2, .inl rfl⟩, HS.out, ?_, hq1⟩
              have := encodeRune_len (v : Int)
              simp only [List.length_append]
              omega
            case measure =>
              have h2 := HIP.out
              simp only [World.iterPos] at h2 ⊢
              rw [H5.out.2.2]
              simp only
              omega
    · have hnx : ∀ ty, (Instr.next (.pointer (some ⟨p + 1, 0, none⟩)) true ty).run Tryd.prog wr = _ := fun ty => Lib.run_next_end_at wr (p + 1) code pos ty hit hlt
      have hd : code.data.toList.drop pos = [] := List.drop_eq_nil_of_le (by rw [← Lib.size_eq]; omega)
      rw [hd, runesD_nil] at hf
      have hst := Tryd.Builder_String_any_k p p o wr hbl (by omega)
      have HB := Lib.hid hbw
      have hfd := farD_some _ _ hf.symm
      simp only at hfd
      have HL := Lib.hid (show o.length ≤ 4 * code.size by omega)
      clear hf hbw hbl hit hd
      by_cases hf0 : f = 0
      · have hfz : ((f : Int) == 0) = true := by simp; omega
        rw [if_pos hf0] at hfd
        have HF := Lib.hid hfd
        clear hfd hf0
        go_wp2_with (go_at_call 20; refine hst.mono ?_; rintro e w4 ⟨rfl, _, hb4, _⟩; have HB4 := Lib.hid hb4; clear hb4)
        go_ret2
        refine ⟨⟨strL o, by rw [HF.out]; rfl, fun x hx => ?_⟩, by rw [hp]; exact HB.out.trans HB4.out⟩
        rw [HF.out] at hx
        cases hx
        exact ⟨rfl, by rw [← Lib.size_eq]; exact HL.out⟩
      · have hfz : ((f : Int) == 0) = false := by simp; omega
        rw [if_neg hf0] at hfd
        have HF := Lib.hid hfd
        clear hfd hf0
        go_wp2_with (go_at_call 20; refine hst.mono ?_; rintro e w4 ⟨rfl, _, hb4, _⟩; have HB4 := Lib.hid hb4; clear hb4)
        go_ret2
        refine ⟨⟨strL o, by rw [HF.out]; rfl, fun x hx => ?_⟩, by rw [hp]; exact HB.out.trans HB4.out⟩
        rw [HF.out] at hx
        cases hx
end Go.Proofs.YtcddppgnmephnaaDoor
