/-
  Several texts of one proof, each in a section of its own: PsW, StrsO, NumsO, Laid.
-/
import Derived.Test.YtnncldnpkfjhbaaGreatDoorMg27
import Derived.Test.YtnncldnpkfjhbaaGreatDoorMg32
import Derived.Test.YtnncldnpkfjhbaaGreatDoorMg18
import Derived.JoinedCond
import Derived.Deep.CondSized
import Derived.SizedLaws
import Derived.SliceStrings
import Derived.Test.YtnncldnpkfjhbaaGreatDoorMg24
import Derived.Test.YtnncldnpkfjhbaaGreatDoorTie
import Derived.PinnedBridge
import Derived.Lib.LaidIn
import Derived.ProofKit
import Derived.OpenShut
import Derived.LaidMore
import Derived.Lay
import Derived.SevenTiedAt
import Derived.Stop.Joined
namespace Go.Proofs.YtnncldnpkfjhbaaGreatDoor
section
set_option linter.unusedVariables false
open Go.RowKit Go.Lib Go.Shelf Go.Joins
attribute [local go_sem] Oper.semAt_some

theorem OfOk.some {l : List Nat} {kd : Nat} {L : List Int} {S : List ByteArray} {w W' : World} {e : Ending} {q : PT} (h : OfOk l kd L S w e W') (hq : findP (rootP l) L = Option.some q) : ∃ u, e = .returned (.tuple #[u, .bool true]) ∧ OwnB W' w.heap.size u (askS l kd L S q) ∧ Below w.heap.size w W' := by
  obtain ⟨u, ok, rfl, h1, h2, hb⟩ := h
  cases ok with
  | false => rw [(h2 rfl).1] at hq; cases hq
  | true =>
    obtain ⟨q', hq', ho⟩ := h1 rfl
    rw [hq'] at hq
    obtain rfl := Option.some.inj hq
    exact ⟨u, rfl, ho, hb⟩
theorem OfOk.none {l : List Nat} {kd : Nat} {L : List Int} {S : List ByteArray} {w W' : World} {e : Ending} (h : OfOk l kd L S w e W') (hq : findP (rootP l) L = Option.none) : e = .returned (.tuple #[.slice Option.none 0 0, .bool false]) ∧ Below w.heap.size w W' := by
  obtain ⟨u, ok, rfl, h1, h2, hb⟩ := h
  cases ok with
  | false => exact ⟨by rw [(h2 rfl).2], hb⟩
  | true =>
    obtain ⟨q', hq', ho⟩ := h1 rfl
    rw [hq'] at hq
    cases hq
theorem FindOk.some {l : List Nat} {L : List Int} {w W' : World} {e : Ending} {q : PT} (h : FindOk l L w e W') (hq : findP (rootP l) L = Option.some q) : ∃ u, e = .returned (.tuple #[u, .bool true]) ∧ PartA (fun g => w.heap.size ≤ g) W' q u ∧ Below w.heap.size w W' := by
  obtain ⟨u, q', ok, rfl, hp, h1, h2, hb⟩ := h
  cases ok with
  | false => rw [h2 rfl] at hq; cases hq
  | true =>
    have := h1 rfl
    rw [this] at hq
    obtain rfl := Option.some.inj hq
    exact ⟨u, rfl, hp, hb⟩
theorem FindOk.none {l : List Nat} {L : List Int} {w W' : World} {e : Ending} (h : FindOk l L w e W') (hq : findP (rootP l) L = Option.none) : ∃ u q, e = .returned (.tuple #[u, .bool false]) ∧ PartA (fun g => w.heap.size ≤ g) W' q u ∧ Below w.heap.size w W' := by
  obtain ⟨u, q', ok, rfl, hp, h1, h2, hb⟩ := h
  cases ok with
  | true => rw [h1 rfl] at hq; cases hq
  | false => exact ⟨u, q', rfl, hp, hb⟩

set_option maxRecDepth 100000 in
set_option maxHeartbeats 4000000 in
theorem parts_walk (v pv : Value) (b : List Nat) (L : List Int) (w : World) (h0 : RowB w v b) (hL : IntsIn w pv L) (hb0 : b.length ≤ 140737488351232) :
    Calls Tryz.prog 4 #[v, pv] w fun e w' => e = .returned (.bool true) ∧ Below w.heap.size w w' := by
  have HAW := Lib.hid (fun w => awake_any w)
  obtain ⟨a, cap, rfl⟩ : ∃ a c, v = .slice a b.length c := by obtain ⟨a, len, c, e, h, _⟩ := h0; exact ⟨a, c, by rw [e, h]⟩
  obtain ⟨pa, pc, rfl, hpc, -, -⟩ := id hL
  have hcap := h0.facts.2
  have H0 := Lib.hid h0
  have HL := Lib.hid hL
  clear h0 hL hpc
  by_cases g0 : 6000 < (b.length : Int)
  · clear hb0
    go_enter Tryz.func4, Tryz.ntmps4
    go_wp2_with (go_at_call 6; refine (HAW.out _).mono ?_; rintro e w1 ⟨rfl, hb⟩)
    go_ret
    exact ⟨rfl, hb⟩
  · by_cases g1 : (L.length : Int) < 1
    · clear hb0
      go_enter Tryz.func4, Tryz.ntmps4
      go_wp2_with (go_at_call 6; refine (HAW.out _).mono ?_; rintro e w1 ⟨rfl, hb⟩)
      go_ret
      exact ⟨rfl, hb⟩
    · by_cases g2 : 10 < (L.length : Int)
      · clear hb0
        go_enter Tryz.func4, Tryz.ntmps4
        go_wp2_with (go_at_call 6; refine (HAW.out _).mono ?_; rintro e w1 ⟨rfl, hb⟩)
        go_ret
        exact ⟨rfl, hb⟩
      · have hbl : b.length ≤ 6000 := by omega
        have hF := fun W hr hL => find_any (.slice a b.length cap) (.slice pa L.length pc) b L W hr (by omega) hL (by omega)
        have hM := fun W hr hL => of3_any (.slice a b.length cap) (.slice pa L.length pc) (.slice none 0 0) b L [] W hr (by omega) hL (by omega) (strs_nil _) (by simp) (by omega)
        have hA := fun W hr hL => of0_any (.slice a b.length cap) (.slice pa L.length pc) (.slice none 0 0) b L [] W hr (by omega) hL (by omega) (strs_nil _) (by simp)
        have HF := Lib.hid hF
        have HM := Lib.hid hM
        have HA := Lib.hid hA
        have HBL := Lib.hid hbl
        have HLT := Lib.hid H0.out.lt
        have HL1 : Hid (0 < L.length) := Lib.hid (by omega)
        clear hF hM hA hb0 hbl
        cases hq : findP (rootP b) L with
        | none =>
          have HQ := Lib.hid hq
          clear hq hcap
          go_enter Tryz.func4, Tryz.ntmps4
          go_upto_region 4 with (go_at_call 11; refine (HF.out _ H0.out HL.out).mono ?_; intro e w1 h1; obtain ⟨u1, q1, rfl, hp1, hb1⟩ := h1.none HQ.out; obtain ⟨k1, K0, S0, h0, f0, t0, n0, ka, kn, kc, rfl, -, -⟩ := hp1.open; have HB1 := Lib.hid (hb1.alloc hb1.size (.cells #[.string K0, .string S0, .int .i64 (h0 : Nat), .int .i64 (f0 : Nat), .int .i64 (t0 : Nat), .int .i64 (n0 : Nat), .slice ka kn kc] 37)); clear h1 hp1 hb1)
          generalize w1.alloc (.cells #[.string K0, .string S0, .int .i64 (h0 : Nat), .int .i64 (f0 : Nat), .int .i64 (t0 : Nat), .int .i64 (n0 : Nat), .slice ka kn kc] 37) = W1 at *
          go_upto_region 5 with (go_at_call 7; refine (HM.out _ (H0.out.below HB1.out) (HL.out.below HB1.out)).mono ?_; intro e w2 h2; obtain ⟨rfl, hb2⟩ := h2.none HQ.out; have HB2 := Lib.hid (HB1.out.trans (hb2.mono HB1.out.size)); clear h2 hb2)
          go_upto_region 6 with (go_at_call 7; refine (HA.out _ (H0.out.below HB2.out) (HL.out.below HB2.out)).mono ?_; intro e w3 h3; obtain ⟨rfl, hb3⟩ := h3.none HQ.out; have HB3 := Lib.hid (HB2.out.trans (hb3.mono HB2.out.size)); clear h3 hb3)
          go_wp2_with (go_at_call 6; refine (HAW.out _).mono ?_; rintro e w4 ⟨rfl, hb4⟩; have HB4 := Lib.hid (HB3.out.trans (hb4.mono HB3.out.size)); clear hb4)
          go_ret
          exact ⟨rfl, HB4.out⟩
        | some q =>
          have HQ := Lib.hid hq
          have HQF := Lib.hid ((OkPart.find L (root_ok b) hq).facts)
          have ha3 : askS b 3 L [] q = rngS b q.head q.frm := by unfold askS; simp
          have ha0 : askS b 0 L [] q = rngS b q.frm q.to := by unfold askS; rw [if_pos rfl, if_neg (by intro e; rw [e] at g1; simp at g1)]
          have HA3 := Lib.hid ha3
          have HA0 := Lib.hid ha0
          clear hq ha3 ha0
          go_enter Tryz.func4, Tryz.ntmps4
          go_upto_region 4 with (go_at_call 11; refine (HF.out _ H0.out HL.out).mono ?_; intro e w1 h1; obtain ⟨u1, rfl, hp1, hb1⟩ := h1.some HQ.out; obtain ⟨k1, K0, S0, h0, f0, t0, n0, ka, kn, kc, rfl, -, hfacts⟩ := hp1.open; have HFC := Lib.hid hfacts; have HB1 := Lib.hid (hb1.alloc hb1.size (.cells #[.string K0, .string S0, .int .i64 (h0 : Nat), .int .i64 (f0 : Nat), .int .i64 (t0 : Nat), .int .i64 (n0 : Nat), .slice ka kn kc] 37)); clear h1 hp1 hb1 hfacts)
          have hz := heap_alloc_new w1 (.cells #[.string K0, .string S0, .int .i64 (h0 : Nat), .int .i64 (f0 : Nat), .int .i64 (t0 : Nat), .int .i64 (n0 : Nat), .slice ka kn kc] 37)
          obtain ⟨z, hzz⟩ : ∃ z, w1.heap.size = z := ⟨_, rfl⟩
          rw [hzz] at hz ⊢
          generalize w1.alloc (.cells #[.string K0, .string S0, .int .i64 (h0 : Nat), .int .i64 (f0 : Nat), .int .i64 (t0 : Nat), .int .i64 (n0 : Nat), .slice ka kn kc] 37) = W1 at *
          have HZ := Lib.hid hz
          clear hz hzz
          go_upto_region 5 with (go_at_call 7; refine (HM.out _ (H0.out.below HB1.out) (HL.out.below HB1.out)).mono ?_; intro e w2 h2; obtain ⟨u2, rfl, ho2, hb2⟩ := h2.some HQ.out; rw [HA3.out] at ho2; have HO2 := Lib.hid (ho2.rowB (rngS_lt HLT.out _ _)); have HB2 := Lib.hid (HB1.out.trans (hb2.mono HB1.out.size)); have HZ2 := Lib.hid ((hb2.block _ (Array.getElem?_eq_some_iff.1 HZ.out).1).trans HZ.out); clear h2 hb2 ho2)
          go_upto_region 6 with (go_at_call 7; refine (HA.out _ (H0.out.below HB2.out) (HL.out.below HB2.out)).mono ?_; intro e w3 h3; obtain ⟨u3, rfl, ho3, hb3⟩ := h3.some HQ.out; rw [HA0.out] at ho3; have HO3 := Lib.hid (ho3.rowB (rngS_lt HLT.out _ _)); have HO23 := Lib.hid (HO2.out.below hb3); have HB3 := Lib.hid (HB2.out.trans (hb3.mono HB2.out.size)); have HZ3 := Lib.hid ((hb3.block _ (Array.getElem?_eq_some_iff.1 HZ2.out).1).trans HZ2.out); clear h3 hb3 ho3)
          go_upto_region 10 with (go_at_call 6; refine (HAW.out _).mono ?_; rintro e w4 ⟨rfl, hb4⟩; have HB4 := Lib.hid (HB3.out.trans (hb4.mono HB3.out.size)); have HO34 := Lib.hid (HO3.out.below hb4); have HO24 := Lib.hid (HO23.out.below hb4); have HZ4 := Lib.hid ((hb4.block _ (Array.getElem?_eq_some_iff.1 HZ3.out).1).trans HZ3.out); clear hb4)
          obtain ⟨e0, e1, e2, e3, e4, e5⟩ := HFC.out
          have hqf := HQF.out
          rw [e2, e3, e4] at hqf
          have hr2 := HO24.out
          have hr3 := HO34.out
          rw [e2, e3] at hr2
          rw [e3, e4] at hr3
          have hD := (Below.refl w4.heap.size w4).drew
          have HR2 := Lib.hid (hr2.below hD)
          have HR3 := Lib.hid (hr3.below hD)
          have hR0 := ((H0.out.below (HB4.out)).rng (f := h0) (t := t0) (by omega) hqf.2.2).below hD
          have HR0 := Lib.hid hR0
          have HN := Lib.hid hqf
          have c2 := cell_of_row w4 z 2 _ _ _ HZ4.out
          have c3 := cell_of_row w4 z 3 _ _ _ HZ4.out
          have c4 := cell_of_row w4 z 4 _ _ _ HZ4.out
          have hz0 := World.block_lt_of_cell? w4 _ c2
          have i0 : (h0 : Int) ≤ (f0 : Int) := by omega
          have i1 : (f0 : Int) ≤ (t0 : Int) := by omega
          have i2 : (t0 : Int) ≤ (b.length : Int) := by omega
          have i3 : (t0 : Int) ≤ (cap : Int) := by omega
          have i4 : (0 : Int) ≤ (h0 : Int) := by omega
          have i5 : (h0 : Int) ≤ (t0 : Int) := by omega
          have i6 : ((t0 : Int) - (h0 : Int)).toNat = t0 - h0 := by omega
          have HZL : Hid (z < w4.heap.size) := Lib.hid hz0
          have hjoin : rngS b h0 f0 ++ rngS b f0 t0 = rngS b h0 t0 := rng_join hqf.1 hqf.2.1 hqf.2.2
          have HJ := Lib.hid hjoin
          clear hr2 hr3 hD hR0 hqf e0 e1 e2 e3 e4 e5 hz0 hjoin
          clear HFC HQF HO24 HO34 HO23 HO3 HO2 HZ3 HZ2 HZ HB1 HB2 HB3 HF HM HA HA3 HA0
          have hR0 := HR0.out
          clear HR0
          by_cases hch : cap = h0
          · subst hch
            rw [if_pos rfl, Nat.sub_self] at hR0
            have HR0 := Lib.hid hR0
            clear hR0
            go_region_held3 (fun w' => w'.cell? ⟨z, 2, none⟩ = some (.int .i64 (cap : Nat)) ∧ w'.cell? ⟨z, 3, none⟩ = some (.int .i64 (f0 : Nat)) ∧ w'.cell? ⟨z, 4, none⟩ = some (.int .i64 (t0 : Nat))) (first | with_reducible exact ⟨c2, c3, c4⟩ | with_reducible exact ⟨d2, d3, d4⟩ | go_keep)
              (first
                | (go_at_call 9
                   refine (copy_any u2 (rngS b cap f0) w4.drew HR2.out (by rw [rngS_len (by have := HN.out; omega)]; have := HN.out; have := HBL.out; omega)).mono ?_
                   rintro e w5 ⟨o, rfl, ho5, hb5⟩
                   have HO5 := Lib.hid ho5
                   have HB45 := Lib.hid hb5
                   have d2 : w5.cell? ⟨z, 2, none⟩ = some (.int .i64 (cap : Nat)) := (hb5.cell (p := ⟨z, 2, none⟩) HZL.out).trans c2
                   have d3 : w5.cell? ⟨z, 3, none⟩ = some (.int .i64 (f0 : Nat)) := (hb5.cell (p := ⟨z, 3, none⟩) HZL.out).trans c3
                   have d4 : w5.cell? ⟨z, 4, none⟩ = some (.int .i64 (t0 : Nat)) := (hb5.cell (p := ⟨z, 4, none⟩) HZL.out).trans c4
                   clear ho5 hb5)
                | ((refine wp_appl (w := w5) (.tmp 91) (.tmp 92) rfl HO5.out ((Below.refl _ _)) HB45.out.size (HR3.out.below HB45.out) rfl rfl (by rw [rngS_len (by have := HN.out; omega), rngS_len (by have := HN.out; omega)]; have := HN.out; have := HBL.out; omega) ?_)
                   intro o6 w6 ho6 hb6 hg6
                   rw [HJ.out] at ho6
                   have HO6 := Lib.hid (ho6.rowB (rngS_lt HLT.out _ _))
                   have HB56 := Lib.hid hb6
                   have d2 : w6.cell? ⟨z, 2, none⟩ = some (.int .i64 (cap : Nat)) := (hb6.cell (p := ⟨z, 2, none⟩) HZL.out).trans d2
                   have d3 : w6.cell? ⟨z, 3, none⟩ = some (.int .i64 (f0 : Nat)) := (hb6.cell (p := ⟨z, 3, none⟩) HZL.out).trans d3
                   have d4 : w6.cell? ⟨z, 4, none⟩ = some (.int .i64 (t0 : Nat)) := (hb6.cell (p := ⟨z, 4, none⟩) HZL.out).trans d4
                   clear ho6 hb6 hg6)
                | (go_at_call 8
                   refine (bytes_yes o6 _ (rngS b cap t0) w6 HO6.out (HR0.out.below (HB45.out.trans (HB56.out.mono (Nat.le_refl _))))).mono ?_
                   rintro e w7 ⟨rfl, rfl⟩))
            all_goals
              go_wp2_with fail
              go_ret
              exact ⟨rfl, ((HB4.out.drew.trans (HB45.out.mono HB4.out.size)).trans (HB56.out.mono HB4.out.size))⟩
          · rw [if_neg hch] at hR0
            have HR0 := Lib.hid hR0
            clear hR0
            go_region_held3 (fun w' => w'.cell? ⟨z, 2, none⟩ = some (.int .i64 (h0 : Nat)) ∧ w'.cell? ⟨z, 3, none⟩ = some (.int .i64 (f0 : Nat)) ∧ w'.cell? ⟨z, 4, none⟩ = some (.int .i64 (t0 : Nat))) (first | with_reducible exact ⟨c2, c3, c4⟩ | with_reducible exact ⟨d2, d3, d4⟩ | go_keep)
              (first
                | (go_at_call 9
                   refine (copy_any u2 (rngS b h0 f0) w4.drew HR2.out (by rw [rngS_len (by have := HN.out; omega)]; have := HN.out; have := HBL.out; omega)).mono ?_
                   rintro e w5 ⟨o, rfl, ho5, hb5⟩
                   have HO5 := Lib.hid ho5
                   have HB45 := Lib.hid hb5
                   have d2 : w5.cell? ⟨z, 2, none⟩ = some (.int .i64 (h0 : Nat)) := (hb5.cell (p := ⟨z, 2, none⟩) HZL.out).trans c2
                   have d3 : w5.cell? ⟨z, 3, none⟩ = some (.int .i64 (f0 : Nat)) := (hb5.cell (p := ⟨z, 3, none⟩) HZL.out).trans c3
                   have d4 : w5.cell? ⟨z, 4, none⟩ = some (.int .i64 (t0 : Nat)) := (hb5.cell (p := ⟨z, 4, none⟩) HZL.out).trans c4
                   clear ho5 hb5)
                | ((refine wp_appl (w := w5) (.tmp 91) (.tmp 92) rfl HO5.out ((Below.refl _ _)) HB45.out.size (HR3.out.below HB45.out) rfl rfl (by rw [rngS_len (by have := HN.out; omega), rngS_len (by have := HN.out; omega)]; have := HN.out; have := HBL.out; omega) ?_)
                   intro o6 w6 ho6 hb6 hg6
                   rw [HJ.out] at ho6
                   have HO6 := Lib.hid (ho6.rowB (rngS_lt HLT.out _ _))
                   have HB56 := Lib.hid hb6
                   have d2 : w6.cell? ⟨z, 2, none⟩ = some (.int .i64 (h0 : Nat)) := (hb6.cell (p := ⟨z, 2, none⟩) HZL.out).trans d2
                   have d3 : w6.cell? ⟨z, 3, none⟩ = some (.int .i64 (f0 : Nat)) := (hb6.cell (p := ⟨z, 3, none⟩) HZL.out).trans d3
                   have d4 : w6.cell? ⟨z, 4, none⟩ = some (.int .i64 (t0 : Nat)) := (hb6.cell (p := ⟨z, 4, none⟩) HZL.out).trans d4
                   clear ho6 hb6 hg6)
                | (go_at_call 8
                   refine (bytes_yes o6 _ (rngS b h0 t0) w6 HO6.out (HR0.out.below (HB45.out.trans (HB56.out.mono (Nat.le_refl _))))).mono ?_
                   rintro e w7 ⟨rfl, rfl⟩))
            all_goals
              go_wp2_with fail
              go_ret
              exact ⟨rfl, ((HB4.out.drew.trans (HB45.out.mono HB4.out.size)).trans (HB56.out.mono HB4.out.size))⟩
end
section
open Go.ChangeShapes Go.WideShapes Go.ChangeAt Go.RowKit
set_option linter.unusedVariables false

theorem weightsAll_mem {H : Type} {P : Program} {e : TypeId} {d : DataW H} : ∀ {l : List (DataW H)}, d ∈ l → ∀ n ∈ d.weights P e, n ∈ DataW.weightsAll P e l := by
  intro l
  induction l with
  | nil => intro h; cases h
  | cons c r ih =>
    intro h n hn
    rw [DataW.weightsAll]
    rcases List.mem_cons.1 h with rfl | h
    · exact List.mem_append_left _ hn
    · exact List.mem_append_right _ (ih h n hn)

/-- a slice of texts, opened -/
theorem open_row_strs {H : Type} {enc : TypeId × Value → H} {w : World} {a : Option Addr} {len cap : Nat} {d : DataW H} {p : List MemPlace}
    (h : DataW.Trod enc Tryz.prog w 0 (fun _ => true) true 27 (.slice a len cap) d p) (hwt : ∀ n ∈ d.weights Tryz.prog 27, n ≤ reachBytes) : ∃ S : List ByteArray, StrsIn w (.slice a len cap) S := by
  obtain ⟨fuel, hf⟩ := h
  rcases open_strings Tryz.underlying27 Tryz.underlying9 (by kernel_rfl) hf with ⟨hcs, _⟩ | ⟨x, l, c, ss, hcs, _, hl, hm, hz, hx, hcell, hsz⟩
  · simp [Value.cells] at hcs
    obtain ⟨rfl, rfl, rfl⟩ := hcs
    exact ⟨[], by simp, by simp, .inl ⟨rfl, _, _, rfl⟩⟩
  · simp [Value.cells] at hcs
    obtain ⟨rfl, rfl, rfl⟩ := hcs
    have hz' : ss.length = cap := by simpa using hz
    have htl : (ss.take len).length = len := by simp; omega
    obtain ⟨rfl, rfl⟩ := Prod.mk.inj hx
    refine ⟨ss.take len, ?_, by omega, ?_⟩
    · intro s hs
      have h9 := hwt s.data.toList.length (by
        rw [DataW.weights, Tryz.underlying27]
        refine List.mem_cons_of_mem _ (List.mem_append_left _ (weightsAll_mem (d := .lit (.string s.data.toList)) ?_ _ (by rw [DataW.weights]; exact List.mem_singleton.2 rfl)))
        exact List.mem_map.2 ⟨s, hs, rfl⟩)
      have e9 : s.data.toList.length = s.size := by rw [Array.length_toList]; rfl
      simp only [reachBytes] at h9
      omega
    · by_cases h0 : len = 0
      · subst h0
        exact .inl ⟨by simp, _, _, rfl⟩
      · right
        obtain ⟨b, off, spot⟩ := x
        have hc0 := hcell 0 (by omega)
        have hspot : spot = none := by simpa [Addr.add] using World.cell?_spot hc0
        subst hspot
        refine ⟨b, off, cap, by rw [htl], ?_, by omega, fun i hi => ?_⟩
        · have := World.block_lt_of_cell? w _ hc0
          simpa [Addr.add] using this
        · have hi' : i < len := by omega
          have := hcell i (by omega)
          rw [Addr.add_lit] at this
          rw [this]
          have : ss.getD i ByteArray.empty = ss[i]'(by omega) := by simp [List.getD, show i < ss.length by omega]
          rw [this]
          simp
end
section
set_option linter.unusedVariables false
open Go.RowKit Go.ChangeShapes Go.WideShapes Go.Deep

theorem open_row_nums {H : Type} {enc : TypeId × Value → H} {w : World} {a : Option Addr} {len cap : Nat} {d : DataW H} {p : List MemPlace}
    (h : DataW.Trod enc Tryz.prog w 0 (fun _ => true) true 26 (.slice a len cap) d p) : ∃ L : List Int, IntsIn w (.slice a len cap) L := by
  obtain ⟨fuel, hf⟩ := h
  rcases open_ints Tryz.underlying26 Tryz.underlying3 (by kernel_rfl) hf with ⟨hcs, _⟩ | ⟨x, l, c, zs, hcs, _, hl, hm, hz, hx, hcell, hwz⟩
  · simp [Value.cells] at hcs
    obtain ⟨rfl, rfl, rfl⟩ := hcs
    exact ⟨[], none, 0, rfl, Nat.le_refl _, by simp, .inl rfl⟩
  · simp [Value.cells] at hcs
    obtain ⟨rfl, rfl, rfl⟩ := hcs
    have hz' : zs.length = cap := by simpa using hz
    refine ⟨zs.take len, some x, cap, by rw [List.length_take, Nat.min_eq_left (by omega)], by rw [List.length_take]; omega, fun z hzm => ?_, ?_⟩
    · have := Go.bounds_i64 (hwz z (List.mem_of_mem_take hzm))
      omega
    · by_cases h0 : len = 0
      · left
        rw [h0]
        rfl
      · right
        obtain ⟨b, off, spot⟩ := x
        have hc0 := hcell 0 (by omega)
        have hspot : spot = none := by simpa [Addr.add] using World.cell?_spot hc0
        subst hspot
        refine ⟨b, off, rfl, World.block_lt_of_cell? w _ hc0, fun i hi => ?_⟩
        have hi2 : i < zs.length := by rw [List.length_take] at hi; omega
        have h1 := hcell i hi2
        rw [Addr.add_lit] at h1
        rw [h1]
        simp [List.getD, hi2]
end
section
open Go.ChangeShapes Go.WideShapes Go.ChangeAt Go.RowKit

theorem own : ownKnob Tryz.prog.godebug = none := by kernel_rfl
theorem laidOut : laidOutB Tryz.prog = true := by kernel_rfl
end
end Go.Proofs.YtnncldnpkfjhbaaGreatDoor
