/-
  Several texts of one proof, each in a section of its own: RmW, ChO.
-/
import Derived.Test.YtmnbkhgogogeiaaRg41
import Derived.Test.YtmnbkhgogogeiaaRg16
import Derived.Deep.SlicePairs
import Derived.JoinedCond
import Derived.SizedLaws
namespace Go.Proofs.Ytmnbkhgogogeiaa
section
set_option linter.unusedVariables false
open Go.RowKit

theorem Rnd.under {B : Nat} {w0 w : World} {pt pl pd : Nat} {kv : Value} {k : Nat} {C : List Chg} (h : Rnd B w0 w pt pl pd kv k C) : Below B w0 w := by
  obtain ⟨q, P, -, -, -, -, -, -, ⟨s, S, W, hl, -⟩, -⟩ := h.tc
  exact hl.disk.below
theorem Cpd.under {B : Nat} {w0 w : World} {pt pl pd : Nat} {kv : Value} {k : Nat} {C : List Chg} (h : Cpd B w0 w pt pl pd kv k C) : Below B w0 w := by
  obtain ⟨q, P, -, -, -, -, -, ⟨s, S, W, hl, -⟩, -⟩ := h.tc
  exact hl.disk.below
theorem Rnd.below {B : Nat} {w0 w w' : World} {pt pl pd : Nat} {kv : Value} {k : Nat} {C : List Chg} (h : Rnd B w0 w pt pl pd kv k C) (hb : Below w.heap.size w w') : Rnd B w0 w' pt pl pd kv k C := by
  obtain ⟨q, P, h1, h2, h3, h4, h5, h6, h7⟩ := h.tc
  exact ⟨⟨q, P, h1, h2, h3, h4, h5, h6, h7.below hb⟩⟩
abbrev goodR (c : Chg) : Prop := 0 < c.key.length ∧ c.key.length ≤ 64 ∧ c.val.length ≤ 500

set_option maxRecDepth 100000 in
set_option maxHeartbeats 16000000 in
theorem troom_walk (v0 : Value) (times : Int) (C : List Chg) (w : World) (hC : ChgV w v0 C) (hsC : ∀ c ∈ C, c.key.length ≤ 281474976710656 ∧ c.val.length ≤ 281474976710656) :
    Calls Try.prog 5 #[v0, .int .i64 times] w fun e w' => e = .returned (.bool true) ∧ Below w.heap.size w w' := by
  obtain ⟨ca, cc, rfl, hcc, -⟩ := id hC
  have HC := Lib.hid hC
  have HS := Lib.hid hsC
  obtain ⟨nt, hnt, hn20, hn80⟩ : ∃ nt : Nat, 20 + (IntKind.u64.wrap times).tmod 60 = (nt : Int) ∧ 20 ≤ nt ∧ nt < 80 := by
    have h0 : 0 ≤ IntKind.u64.wrap times := by rw [IntKind.wrap_u64]; exact Int.emod_nonneg _ (by decide)
    generalize IntKind.u64.wrap times = y at *
    rw [Int.tmod_eq_emod_of_nonneg h0]
    exact ⟨(20 + y % 60).toNat, by omega, by omega, by omega⟩
  have HNT := Lib.hid (And.intro hnt (And.intro hn20 hn80))
  clear hC hsC hnt hn20 hn80
  go_enter Try.func5, Try.ntmps5
  go_upto_region 3 with (first
    | (go_at_call 7; refine (new_held 6000 _ (by decide) (by decide)).mono ?_; rintro e w2 ⟨pd, kvv, rfl, hd2⟩; have HD2 := Lib.hid hd2; clear hd2)
    | (go_at_call 8; refine (topen_c HD2.out (by decide) (by decide) 320).mono ?_; rintro e w3 ⟨pt, pl, rfl, ht3, -⟩; have HT3 := Lib.hid ht3; clear ht3))
  clear HD2
  have HR3 : Hid (Rnd w.heap.size w w3 pt pl pd kvv 0 C) := Lib.hid ⟨⟨_, [], rfl, rfl, Nat.le_refl _, Nat.zero_le _, .inl rfl, rfl, HT3.out⟩⟩
  have HB3 : Hid (Below w.heap.size w w3) := Lib.hid HR3.out.under
  clear HT3
  by_cases g0 : C.length = 0
  · have HC0 := Lib.hid g0
    obtain ⟨n, hn⟩ : ∃ n, C.length = n := ⟨_, rfl⟩
    rw [hn] at g0
    rw [hn]
    clear hn
    subst g0
    go_upto_region 4 with (first
      | (go_at_call 9; refine (twake_any _).mono ?_; rintro e w4 ⟨rfl, hb4⟩; have HB4 := Lib.hid hb4; clear hb4))
    go_wp2_with (first
      | (go_at_call 9; refine (twake_any _).mono ?_; rintro e w5 ⟨rfl, hb5⟩; have HB5 := Lib.hid hb5; clear hb5))
    go_ret
    exact ⟨rfl, HB3.out.trans ((HB4.out.trans (HB5.out.mono HB4.out.size)).mono HB3.out.size)⟩
  · have e1 : ((C.length : Int) == 0) = false := beq_false_of_ne (by omega)
    have q1 : ¬ (C.length : Int) = 0 := by omega
    by_cases g1 : 20 < C.length
    · have q2 : (20 : Int) < (C.length : Int) := by omega
      have e2 : decide ((20 : Int) < (C.length : Int)) = true := decide_eq_true q2
      clear g0 g1
      go_upto_region 4 with (first
        | (go_at_call 9; refine (twake_any _).mono ?_; rintro e w4 ⟨rfl, hb4⟩; have HB4 := Lib.hid hb4; clear hb4))
      go_wp2_with (first
        | (go_at_call 9; refine (twake_any _).mono ?_; rintro e w5 ⟨rfl, hb5⟩; have HB5 := Lib.hid hb5; clear hb5))
      go_ret
      exact ⟨rfl, HB3.out.trans ((HB4.out.trans (HB5.out.mono HB4.out.size)).mono HB3.out.size)⟩
    · have q2 : ¬ (20 : Int) < (C.length : Int) := by omega
      have e2 : decide ((20 : Int) < (C.length : Int)) = false := decide_eq_false q2
      have HLN : Hid (0 < C.length ∧ C.length ≤ 20) := Lib.hid ⟨by omega, by omega⟩
      have hcl : (C.length : Int) ≤ 20 := by omega
      clear g0 g1
      go_upto_region 5 with (first
        | (go_at_call 9; refine (twake_any _).mono ?_; rintro e w6 ⟨rfl, hb6⟩; have HB6 := Lib.hid hb6; clear hb6))
      have HR6 := Lib.hid (HR3.out.below HB6.out)
      have HC6 := Lib.hid (HC.out.below HR6.out.under)
      have HS6 := Lib.hid HB6.out.size
      clear HR3 HB3 HB6 q1 q2 e1 e2
      go_wp2_with fail
      go_loopw [10, 9] (fun i z wr => ∃ k : Nat, k ≤ C.length ∧ i = .int .i64 (k : Nat) ∧ z = .int .i64 (weigh (C.take k) + 64 * k : Nat) ∧ Below w6.heap.size w6 wr ∧ ∀ c ∈ C.take k, goodR c) (fun i _ _ => C.length - (RowKit.intOf i).toNat)
      case atStart => exact ⟨0, Nat.zero_le _, rfl, rfl, Below.refl _ _, by simp⟩
      case round =>
        obtain ⟨k, hk, rfl, rfl, hb, hgood⟩ := hrel
        have HB := Lib.hid hb
        have HG := Lib.hid hgood
        clear hgood
        rename World => wr
        by_cases hkn : k < C.length
        · have hkz : (k : Int) < (C.length : Int) := by omega
          obtain ⟨g, off, cap2, ka, kc, va, vc, e, hcap, c0, c1, -, -, -⟩ := (HC6.out.below hb).at k hkn
          obtain ⟨rfl, -, rfl⟩ := Value.slice.inj e
          by_cases hbad : goodR C[k]
          · have HNG : Hid (∀ c ∈ C.take (k + 1), goodR c) := Lib.hid (by
              intro c hc
              rw [List.take_succ_eq_append_getElem hkn] at hc
              rcases List.mem_append.1 hc with h | h
              · exact HG.out c h
              · obtain rfl := List.mem_singleton.1 h
                exact hbad)
            have hwt : weigh (C.take k) ≤ 20 * (2 * 500) := by
              refine Nat.le_trans (weigh_le _ 500 fun c hc => ?_) (Nat.mul_le_mul_right _ (by have := HLN.out.2; simp; omega))
              have := HG.out c hc
              unfold goodR at this
              omega
            have hst := weigh_step C k hkn
            have HNX : Hid (weigh (C.take (k + 1)) + 64 * (k + 1) = weigh (C.take k) + 64 * k + C[k].key.length + C[k].val.length + 64) := Lib.hid (by omega)
            obtain ⟨m, hm⟩ : ∃ m, weigh (C.take k) + 64 * k = m := ⟨_, rfl⟩
            have hmb : m ≤ 22000 := by have := HLN.out.2; omega
            rw [hm] at HNX
            rw [hm]
            clear hst hm hcap e hwt
            unfold goodR at hbad
            generalize C[k].key.length = kl at *
            generalize C[k].val.length = vl at *
            obtain ⟨b1, b2, b3⟩ := hbad
            have g1 : ¬ (kl : Int) = 0 := by omega
            have g2 : ¬ (64 : Int) < (kl : Int) := by omega
            have g5 : ¬ (500 : Int) < (vl : Int) := by omega
            have g3 : ((kl : Int) == 0) = false := beq_false_of_ne g1
            have g4 : decide ((64 : Int) < (kl : Int)) = false := decide_eq_false g2
            have g6 : decide ((500 : Int) < (vl : Int)) = false := decide_eq_false g5
            have HKN := Lib.hid hkn
            have w1 : IntKind.i64.wrap ((m : Int) + (kl : Int)) = (m : Int) + (kl : Int) := wrap_ok _ (by omega) (by omega)
            have w2 : IntKind.i64.wrap ((m : Int) + (kl : Int) + (vl : Int)) = (m : Int) + (kl : Int) + (vl : Int) := wrap_ok _ (by omega) (by omega)
            have w3 : IntKind.i64.wrap ((m : Int) + (kl : Int) + (vl : Int) + 64) = (m : Int) + (kl : Int) + (vl : Int) + 64 := wrap_ok _ (by omega) (by omega)
            clear hmb b1 b2 b3
            go_wp2_with go_region
            go_roundw
            case rel => have := HLN.out; exact ⟨k + 1, HKN.out, by go_num, by rw [HNX.out]; go_num, by first | exact HB.out | exact HB.out.drew | exact below_drewN HB.out _, HNG.out⟩
            case measure => have := HLN.out; have := HKN.out; simp [intOf]; omega
          · have HE : Hid (Below w.heap.size w wr) := Lib.hid (HR6.out.under.trans (HB.out.mono HR6.out.under.size))
            unfold goodR at hbad
            generalize C[k].key.length = kl at *
            generalize C[k].val.length = vl at *
            clear hcap e
            by_cases b1 : kl = 0
            · subst b1
              go_wp2_with fail
              go_ret
              exact ⟨rfl, by first | exact HE.out | exact HE.out.drew | exact below_drewN HE.out _⟩
            · have g1 : ¬ (kl : Int) = 0 := by omega
              have g3 : ((kl : Int) == 0) = false := beq_false_of_ne g1
              by_cases b2 : 64 < kl
              · have g2 : (64 : Int) < (kl : Int) := by omega
                have g4 : decide ((64 : Int) < (kl : Int)) = true := decide_eq_true g2
                clear hbad b1 b2
                go_wp2_with fail
                go_ret
                exact ⟨rfl, by first | exact HE.out | exact HE.out.drew | exact below_drewN HE.out _⟩
              · have g2 : ¬ (64 : Int) < (kl : Int) := by omega
                have g4 : decide ((64 : Int) < (kl : Int)) = false := decide_eq_false g2
                have g5 : (500 : Int) < (vl : Int) := by omega
                have g6 : decide ((500 : Int) < (vl : Int)) = true := decide_eq_true g5
                clear hbad b1 b2
                go_wp2_with fail
                go_ret
                exact ⟨rfl, by first | exact HE.out | exact HE.out.drew | exact below_drewN HE.out _⟩
        · obtain rfl : k = C.length := by omega
          rw [List.take_length]
          have hga := HG.out
          rw [List.take_length] at hga
          have hwb : weigh C ≤ 20 * (2 * 500) := by
            refine Nat.le_trans (weigh_le _ 500 fun c hc => ?_) (Nat.mul_le_mul_right _ HLN.out.2)
            have := hga c hc
            unfold goodR at this
            omega
          have HGA := Lib.hid hga
          have HRr := Lib.hid (HR6.out.below HB.out)
          obtain ⟨m, hm⟩ : ∃ m, weigh C + 64 * C.length = m := ⟨_, rfl⟩
          have hmb : m ≤ 22000 := by have := HLN.out.2; omega
          have HM := Lib.hid hm
          rw [hm]
          obtain ⟨mt, hmt⟩ : ∃ mt, 4 * m = mt := ⟨_, rfl⟩
          have htz : 4 * (m : Int) = (mt : Int) := by omega
          have htb : mt ≤ 88000 := by omega
          have HMT := Lib.hid hmt
          clear hm hmt hga hwb hmb hb hkn hk HG HC6 HB
          by_cases hgo : 48000 < mt
          · have q3 : (48000 : Int) < (mt : Int) := by omega
            have e3 : decide ((48000 : Int) < (mt : Int)) = true := decide_eq_true q3
            have k1 : IntKind.i64.wrap (mt : Int) = (mt : Int) := wrap_ok _ (by omega) (by omega)
            clear hgo htb
            go_wp2_with fail
            go_ret
            exact ⟨rfl, HRr.out.under⟩
          · have q3 : ¬ (48000 : Int) < (mt : Int) := by omega
            have e3 : decide ((48000 : Int) < (mt : Int)) = false := decide_eq_false q3
            have k1 : IntKind.i64.wrap (mt : Int) = (mt : Int) := wrap_ok _ (by omega) (by omega)
            have HW : Hid (weigh C ≤ 12000 ∧ (∀ c ∈ C, 0 < c.key.length ∧ c.key.length ≤ 64) ∧ ∀ c ∈ C, c.key.length ≤ 100000 ∧ c.val.length ≤ 100000) := Lib.hid (by
              refine ⟨by have := HM.out; have := HMT.out; omega, fun c hc => ?_, fun c hc => ?_⟩
              · have := HGA.out c hc
                unfold goodR at this
                omega
              · have := HGA.out c hc
                unfold goodR at this
                omega)
            clear hgo htb HM HMT HGA
            go_upto_region 14 with (fail)
            clear q3 e3 k1 htz
            go_wp2_with fail
            go_loopw [11] (fun i wx => ∃ j : Nat, j ≤ nt ∧ i = .int .i64 (j : Nat) ∧ Rnd w.heap.size w wx pt pl pd kvv j C) (fun i _ => nt - (RowKit.intOf i).toNat)
            case atStart => exact ⟨0, Nat.zero_le _, rfl, HRr.out⟩
            case round =>
              obtain ⟨j, hj, rfl, hrd⟩ := hrel
              rename World => wx
              have HRD := Lib.hid hrd
              clear hrd HRr
              obtain ⟨ht1, -, ht2⟩ := HNT.out
              have k2 : IntKind.i64.wrap ((IntKind.u64.wrap times).tmod 60) = (IntKind.u64.wrap times).tmod 60 := wrap_ok _ (by omega) (by omega)
              have k3 : IntKind.i64.wrap (nt : Int) = (nt : Int) := wrap_ok _ (by omega) (by omega)
              by_cases hjn : j < nt
              · have hjz : (j : Int) < (nt : Int) := by omega
                have hjd : decide ((j : Int) < (nt : Int)) = true := decide_eq_true hjz
                have hj79 : (nt : Int) ≤ 79 := by omega
                have HJN := Lib.hid hjn
                have HCO := Lib.hid (rnd_compact HRD.out (by omega) HLN.out.2 HW.out.1 HRD.out.under.size)
                clear ht2 hjn hj
                go_wp2_with (first
                  | (go_at_call 23; refine HCO.out.mono ?_; rintro e w7 ⟨rfl, hc7, -⟩
                     have HDO := Lib.hid (cpd_do hc7 (by have := HNT.out; have := HJN.out; omega) (HC.out.below hc7.under) HLN.out.1 HLN.out.2 HW.out.1 HW.out.2.1 hc7.under.size)
                     clear hc7)
                  | (go_at_call 12; refine HDO.out.mono ?_; rintro e w8 ⟨rfl, hr8, -⟩; have HR8 := Lib.hid hr8; clear hr8))
                go_roundw
                case rel => have := HNT.out.2.2; exact ⟨j + 1, HJN.out, by go_num, HR8.out⟩
                case measure => have := HJN.out; have := HNT.out.2.2; simp [intOf]; omega
              · obtain rfl : j = nt := by omega
                have hjz : ¬ (j : Int) < (j : Int) := by omega
                have hjd : decide ((j : Int) < (j : Int)) = false := decide_eq_false hjz
                have HDN := Lib.hid (done_any (w := wx) (Bm := 0) (vm := .slice none 0 0) (M := []) (.inl ⟨rfl, rfl⟩) (by simp) (HC.out.below HRD.out.under) (by have := HLN.out.2; simp; omega) HS.out)
                clear ht2 hjn hj
                go_wp2_with (first
                  | (go_at_call 15; with_reducible refine HDN.out.mono ?_; rintro e w9 ⟨o, rfl, hro, hb9⟩; obtain ⟨oa, oc, rfl, -⟩ := id hro.shape; have H9 := Lib.hid hb9
                     have HTO := Lib.hid (rnd_told (HRD.out.below hb9) (by have := HNT.out; omega) HLN.out.2 HW.out.2.2 hro)
                     clear hro hb9)
                  | (go_at_call 16; with_reducible refine HTO.out.mono ?_; rintro e w10 ⟨rfl, hb10⟩; have H10 := Lib.hid hb10; clear hb10))
                go_ret
                exact ⟨rfl, ((HRD.out.below H9.out).below H10.out).under⟩
end
section
set_option linter.unusedVariables false
open Go.RowKit Go.ChangeShapes Go.WideShapes Go.Deep

theorem list_of {α : Type} (P : Nat → α → Prop) (n : Nat) (h : ∀ i, i < n → ∃ x, P i x) : ∃ l : List α, l.length = n ∧ ∀ i (hi : i < l.length), P i l[i] := by
  induction n with
  | zero => exact ⟨[], rfl, fun i hi => by simp at hi⟩
  | succ n ih =>
    obtain ⟨l, hl, hp⟩ := ih fun i hi => h i (by omega)
    obtain ⟨x, hx⟩ := h n (by omega)
    refine ⟨l ++ [x], by simp [hl], fun i hi => ?_⟩
    by_cases e : i < l.length
    · rw [List.getElem_append_left e]; exact hp i e
    · have e2 : i = l.length := by simp at hi; omega
      subst e2
      simp only [List.getElem_concat_length]
      rw [hl]; exact hx
theorem weightsAll_mem {H : Type} {P : Program} {e : TypeId} {d : DataW H} : ∀ {l : List (DataW H)}, d ∈ l → ∀ n ∈ d.weights P e, n ∈ DataW.weightsAll P e l := by
  intro l
  induction l with
  | nil => intro h; cases h
  | cons c r ih =>
    intro h n hn
    rw [DataW.weightsAll]
    rcases List.mem_cons.1 h with rfl | h
    · exact List.mem_append_left _ hn
    · exact List.mem_append_right _ (ih h n hn)

theorem open_bytw {H : Type} {enc : TypeId × Value → H} {w : World} {fuel : Nat} {v : Value} {x : DataW H × List MemPlace}
    (h : DataW.trod enc Try.prog w 0 (fun _ => true) true fuel 23 [v] = some x) (hw : ∀ n ∈ x.1.weights Try.prog 23, n ≤ reachBytes) : ∃ l : List Nat, RowB w v l ∧ l.length ≤ 281474976710656 := by
  have b5 : Try.prog.bytesOf 5 = 1 := by kernel_rfl
  rcases open_ints (e := 5) (k := .u8) (by kernel_rfl) (by kernel_rfl) (by kernel_rfl) h with ⟨hcs, _⟩ | ⟨ad, len, cap, zs, hcs, _, hl, hm, hz, hx, hcell, hwz⟩
  · simp only [List.cons.injEq, and_true] at hcs
    subst hcs
    exact ⟨[], rowB_nil w, by simp⟩
  · simp only [List.cons.injEq, and_true] at hcs
    subst hcs
    have hz' : zs.length = cap := by simpa using hz
    refine ⟨_, rowB_of_ints hl hm hz' hcell hwz, ?_⟩
    have h9 := hw (((lits .u8 (zs.take len) : List (DataW H)).length + (lits .u8 (zs.drop len) : List (DataW H)).length) * Try.prog.bytesOf 5) (by rw [hx, DataW.weights, Try.underlying23]; exact List.mem_cons_self ..)
    rw [b5] at h9
    simp only [lits, List.length_map, List.length_take, List.length_drop, reachBytes] at h9
    simp only [List.length_map, List.length_take]
    omega

theorem Try.chg35 : ∃ f0 f1 f2 : Field, Try.prog.underlying 35 = some (.struct #[f0, f1, f2]) ∧ f0.type = 23 ∧ f1.type = 23 ∧ f2.type = 4 ∧ f0.offset = 0 ∧ f1.offset = 1 ∧ f2.offset = 2 :=
  ⟨_, _, _, Try.underlying35, rfl, rfl, rfl, rfl, rfl, rfl⟩

set_option maxRecDepth 100000 in
set_option maxHeartbeats 4000000 in
theorem open_chgs {H : Type} {enc : TypeId × Value → H} {w : World} {v : Value} {d : DataW H} {p : List MemPlace}
    (h0 : DataW.Trod enc Try.prog w 0 (fun _ => true) true 22 v d p) (hcl : v.cells.toList = [v]) (hw : ∀ n ∈ d.weights Try.prog 22, n ≤ reachBytes) : ∃ C : List Chg, ChgV w v C ∧ ∀ c ∈ C, c.key.length ≤ 281474976710656 ∧ c.val.length ≤ 281474976710656 := by
  obtain ⟨fuel, h⟩ := h0
  rw [hcl] at h
  obtain ⟨f0, f1, f2, hs35, t0, t1, t2, o0, o1, o2⟩ := Try.chg35
  have ce : Try.prog.cellsOf 35 = 3 := by kernel_rfl
  have h23 : Try.prog.cellsOf 23 = 1 := by kernel_rfl
  have h4 : Try.prog.cellsOf 4 = 1 := by kernel_rfl
  rcases open_slice Try.underlying22 h with ⟨hcs, _⟩ | ⟨ad, len, cap, m, n, D, Pl, hcs, _, hl, hm, hmm, hx, hcell⟩
  · simp only [List.cons.injEq, and_true] at hcs
    subst hcs
    exact ⟨[], ⟨none, 0, rfl, Nat.le_refl _, by decide, .inl rfl⟩, by simp⟩
  · simp only [List.cons.injEq, and_true] at hcs
    subst hcs
    obtain ⟨rfl, -⟩ := Prod.mk.inj hx
    obtain ⟨L, hL, hp⟩ := list_of (fun i (q : Chg) => ∃ ka kl kc va vl vc, w.cell? (ad.add (i * 3)) = some (.slice ka kl kc) ∧ w.cell? (ad.add (i * 3 + 1)) = some (.slice va vl vc) ∧ w.cell? (ad.add (i * 3 + 2)) = some (.bool q.drop) ∧ RowB w (.slice ka kl kc) q.key ∧ RowB w (.slice va vl vc) q.val ∧ q.key.length ≤ 281474976710656 ∧ q.val.length ≤ 281474976710656) len (fun i hi => by
      obtain ⟨cs', h1, h2⟩ := hcell i (by simp at hmm; omega)
      have hwi : ∀ n ∈ (D i).weights Try.prog 35, n ≤ reachBytes := fun n hn => hw n (by
        rw [DataW.weights, Try.underlying22]
        exact List.mem_cons_of_mem _ (List.mem_append_left _ (weightsAll_mem (List.mem_map.2 ⟨i, List.mem_range.2 hi, rfl⟩) n hn)))
      rw [ce] at h1
      obtain ⟨_, hlen, hc⟩ := World.cells?_some h1
      obtain ⟨xs, k, hk, hxy, _, hxl, hfl⟩ := DataW.trod_struct hs35 h2
      obtain ⟨c0, c1, c2, rfl⟩ : ∃ c0 c1 c2, cs' = [c0, c1, c2] := by
        match cs', hlen with
        | [_, _, _], _ => exact ⟨_, _, _, rfl⟩
      obtain ⟨y0, y1, y2, rfl⟩ : ∃ y0 y1 y2, xs = [y0, y1, y2] := by
        match xs, hxl with
        | [_, _, _], _ => exact ⟨_, _, _, rfl⟩
      have hwe : ∀ n ∈ DataW.weightsEach Try.prog [23, 23, 4] [y0.1, y1.1, y2.1], n ≤ reachBytes := fun n hn => hwi n (by
        have hD : D i = DataW.agg [y0.1, y1.1, y2.1] := (Prod.mk.inj hxy).1
        rw [hD, DataW.weights, Try.underlying35]
        exact hn)
      have hw0 : ∀ n ∈ y0.1.weights Try.prog 23, n ≤ reachBytes := fun n hn => hwe n (DataW.weights_mem_each (j := 0) rfl rfl n hn)
      have hw1 : ∀ n ∈ y1.1.weights Try.prog 23, n ≤ reachBytes := fun n hn => hwe n (DataW.weights_mem_each (j := 1) rfl rfl n hn)
      have g0 := hfl 0 f0 rfl
      have g1 := hfl 1 f1 rfl
      have g2 := hfl 2 f2 rfl
      simp [t0, t1, t2, o0, o1, o2, h23, h4] at g0 g1 g2
      have e0 := hc 0 (by omega)
      have e1 := hc 1 (by omega)
      have e2 := hc 2 (by omega)
      rw [add_add] at e0 e1 e2
      obtain ⟨l0, r0, b0⟩ := open_bytw g0 hw0
      obtain ⟨l1, r1, b1⟩ := open_bytw g1 hw1
      obtain ⟨b5, q5, _⟩ := DataW.trod_bool Try.underlying4 g2
      simp only [List.cons.injEq, and_true] at q5
      subst q5
      obtain ⟨ka, kl, kc, rfl, -⟩ := id r0
      obtain ⟨va, vl, vc, rfl, -⟩ := id r1
      exact ⟨⟨l0, l1, b5⟩, ka, kl, kc, va, vl, vc, by simpa using e0, by simpa using e1, by simpa using e2, r0, r1, b0, b1⟩)
    refine ⟨L, ⟨some ad, cap, by rw [hL], by omega, hm, ?_⟩, fun c hc => ?_⟩
    · by_cases h0 : L.length = 0
      · exact .inl (List.eq_nil_of_length_eq_zero h0)
      · obtain ⟨ka, kl, kc, va, vl, vc, e0, -⟩ := hp 0 (by omega)
        have hs : ad.spot = none := by
          have := World.cell?_spot e0
          simpa [Addr.add] using this
        obtain ⟨g, off, sp⟩ := ad
        simp only at hs
        subst hs
        refine .inr ⟨g, off, rfl, fun i hi => ?_⟩
        obtain ⟨ka, kl, kc, va, vl, vc, e0, e1, e2, r0, r1, -⟩ := hp i hi
        rw [Addr.add_lit] at e0 e1 e2
        exact ⟨ka, kl, kc, va, vl, vc, e0, by rw [Nat.add_assoc]; exact e1, by rw [Nat.add_assoc]; exact e2, r0, r1⟩
    · obtain ⟨i, hi, rfl⟩ := List.mem_iff_getElem.1 hc
      obtain ⟨_, _, _, _, _, _, -, -, -, -, -, b0, b1⟩ := hp i hi
      exact ⟨b0, b1⟩
end
end Go.Proofs.Ytmnbkhgogogeiaa
