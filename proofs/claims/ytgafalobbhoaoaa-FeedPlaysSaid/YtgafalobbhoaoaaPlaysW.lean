/-
  The walk of FeedPlays.
-/
import Derived.Test.YtgafalobbhoaoaaDuoB
import Derived.Deep.DeepCutAuto
namespace Go.Proofs.Ytgafalobbhoaoaa
set_option linter.unusedVariables false
open Go.RowKit

/-- a slice of rows of bytes that came in -/
def RowsIn (w : World) (v : Value) (P : List (Value × List Nat)) : Prop :=
  (∀ x ∈ P, RowB w x.1 x.2 ∧ x.2.length ≤ 140737488351232) ∧ P.length ≤ maxLen ∧ ((P = [] ∧ ∃ a c, v = .slice a 0 c) ∨ ∃ b off c, v = .slice (some ⟨b, off, none⟩) P.length c ∧ b < w.heap.size ∧ P.length ≤ c ∧ ∀ i (h : i < P.length), w.cell? ⟨b, off + i, none⟩ = some P[i].1)
/-- a slice of numbers that came in -/
def IntsIn (w : World) (v : Value) (A : List Int) : Prop :=
  A.length ≤ maxLen ∧ ((A = [] ∧ ∃ a c, v = .slice a 0 c) ∨ ∃ b off c, v = .slice (some ⟨b, off, none⟩) A.length c ∧ b < w.heap.size ∧ A.length ≤ c ∧ ∀ i (h : i < A.length), w.cell? ⟨b, off + i, none⟩ = some (.int .i64 A[i]))

def NoX : Nat → Prop := fun _ => False
theorem OwnF.same {w w' : World} {B : Nat} {v : Value} {l m : List Nat} (h : OwnF w B v l m) (hk : ∀ b, v.ownBlock = some b → w'.heap[b]? = w.heap[b]?) : OwnF w' B v l m := by
  obtain ⟨g, rfl, ho, hB, hg, hm⟩ := h
  have e := hk g rfl
  refine ⟨g, rfl, ho.same fun b hb => by simp [Value.ownBlock] at hb; subst hb; exact e, hB, ?_, hm⟩
  rw [Array.getElem?_eq_getElem hg] at e
  exact (Array.getElem?_eq_some_iff.1 e).1
theorem OwnF.ge {w : World} {B : Nat} {v : Value} {l m : List Nat} (h : OwnF w B v l m) : ∀ b, v.ownBlock = some b → B ≤ b ∧ b < w.heap.size := by
  obtain ⟨g, rfl, ho, hB, hg, hm⟩ := h
  intro b hb
  simp [Value.ownBlock] at hb
  omega
theorem ownB_ge {w : World} {B : Nat} {v : Value} {l : List Nat} (h : OwnB w B v l) : ∀ b, v.ownBlock = some b → B ≤ b := by
  intro b hb
  rcases h.2 with ⟨rfl, _⟩ | ⟨g, cap, cur, rfl, hg, _⟩
  · simp [Value.ownBlock] at hb
  · simp [Value.ownBlock] at hb; omega
/-- the beginning of a row -/
theorem RowB.head {w : World} {a : Option Addr} {c : Nat} {l : List Nat} {n : Nat} (h : RowB w (.slice a l.length c) l) (hn : n ≤ l.length) (h0 : a ≠ none) : RowB w (.slice a n c) (l.take n) := by
  obtain ⟨ad, len, cap, e, hl, hc, hm, hw, hne, hcell⟩ := h
  simp only [Value.slice.injEq] at e
  obtain ⟨rfl, rfl, rfl⟩ := e
  refine ⟨a, n, c, rfl, by simp; omega, by omega, hm, fun x hx => hw x (List.mem_of_mem_take hx), fun e => absurd e h0, fun x hx i hi => ?_⟩
  rw [hcell x hx i (by simp at hi; omega)]
  simp

/-- both asked: the same -/
theorem runS_eta (s : St) (R : List Nat) : ∃ s' R' kind out, runS s R = (s', R', kind, out) ∧ R'.length ≤ R.length ∧ kind ≤ 3 := ⟨_, _, _, _, rfl, (run_len R s).1, (run_len R s).2⟩

set_option maxRecDepth 100000 in
set_option maxHeartbeats 8000000 in
theorem plays_any (v0 v1 : Value) (P : List (Value × List Nat)) (A : List Int) (w : World) (h0 : RowsIn w v0 P) (h1 : IntsIn w v1 A) :
    Calls Try.prog 3 #[v0, v1] w fun e w' => e = .returned (.bool true) ∧ Below w.heap.size w w' := by
  obtain ⟨sa, scap, hv0⟩ : ∃ a c, v0 = .slice a P.length c := by
    rcases h0.2.2 with ⟨rfl, a, c, e⟩ | ⟨b, off, c, e, _⟩
    · exact ⟨a, c, e⟩
    · exact ⟨_, c, e⟩
  obtain ⟨ia, icap, hv1⟩ : ∃ a c, v1 = .slice a A.length c := by
    rcases h1.2 with ⟨rfl, a, c, e⟩ | ⟨b, off, c, e, _⟩
    · exact ⟨a, c, e⟩
    · exact ⟨_, c, e⟩
  subst hv0 hv1
  have HP := Lib.hid h0
  have HA := Lib.hid h1
  have hPl : P.length ≤ maxLen := h0.2.1
  have hAl : A.length ≤ maxLen := h1.1
  unfold maxLen at hPl hAl
  clear h0 h1
  go_enter Try.func3, Try.ntmps3
  go_wp2_with fail
  refine (new_any w).mono ?_
  rintro e w1 ⟨rfl, hf1, hz1, hb1⟩
  have HF1 := Lib.hid hf1
  have HB1 := Lib.hid hb1
  have HZ1 := Lib.hid hz1
  clear hf1 hb1 hz1
  go_upto_region 3 with fail
  have hq1 : w.heap.size ≠ w1.heap.size := by have := HZ1.out; omega
  have hD0 : DuoV w (w1.alloc (.cells #[.slice none 0 0, .slice none 0 0, .slice none 0 0, .int .i64 0, .int .i64 0, .int .i64 0, .bool false, .bool false] 29)) w.heap.size w1.heap.size st0 [] st0 [] NoX (.slice none 0 0) (.slice none 0 0) (.slice none 0 0) (.slice none 0 0) (.slice none 0 0) [] 0 0 false := by
    have hb2 : Below w1.heap.size w1 (w1.alloc (.cells #[.slice none 0 0, .slice none 0 0, .slice none 0 0, .int .i64 0, .int .i64 0, .int .i64 0, .bool false, .bool false] 29)) := (Below.refl _ _).alloc (Nat.le_refl _) _
    have hno : ∀ b, (Value.slice none 0 0).ownBlock ≠ some b := by intro b h; simp [Value.ownBlock] at h
    have hpb : ∀ b, PB w.heap.size (.slice none 0 0) (.slice none 0 0) b → b = w.heap.size := by
      rintro b (h | h | h)
      · exact h
      · exact absurd h (hno b)
      · exact absurd h (hno b)
    have hqb : ∀ b, QB w1.heap.size (.slice none 0 0) (.slice none 0 0) (.slice none 0 0) b → b = w1.heap.size := by
      rintro b (h | h | h | h)
      · exact h
      · exact absurd h (hno b)
      · exact absurd h (hno b)
      · exact absurd h (hno b)
    refine ⟨.inr ⟨rfl, HF1.out.keep hb2 HF1.out.lt, World.ownsRow_nil _ _ _ _⟩, ⟨⟨heap_alloc_new w1 _⟩, World.ownsRow_nil _ _ _ _, World.ownsRow_nil _ _ _ _, fun g h => absurd h (hno g), fun g h => absurd h (hno g), fun g h => absurd h (hno g), rel0⟩, ok0, ok0, RestB.nil _, RestB.nil _, fun g h => absurd h (hno g), ?_, ?_, fun b h => h.elim, HB1.out.trans (hb2.mono HB1.out.size)⟩
    · intro b h1 h2
      exact hq1 ((hpb b h1).symm.trans (hqb b h2))
    · rintro b (h | h)
      · rw [hpb b h]; exact Nat.le_refl _
      · rw [hqb b h]; exact HB1.out.size
  have HD1 : Hid (Duo w _ w.heap.size w1.heap.size st0 [] st0 [] NoX) := Lib.hid ⟨_, _, _, _, _, _, _, _, _, hD0⟩
  have HPQ := Lib.hid hq1
  clear hD0 hq1 HF1 HB1
  generalize w1.alloc (.cells #[.slice none 0 0, .slice none 0 0, .slice none 0 0, .int .i64 0, .int .i64 0, .int .i64 0, .bool false, .bool false] 29) = w2 at *
  generalize w1.heap.size = q at *
  clear HZ1
  go_wp2_with fail
  refine (awake_any _).mono ?_
  rintro e w3 ⟨rfl, hb3⟩
  have HD2 := Lib.hid (HD1.out.below hb3)
  clear hb3 HD1
  go_wp2_with fail
  go_loopw [7] (fun i wr => ∃ (k : Nat) (s : St) (R : List Nat), k ≤ P.length ∧ k ≤ 60 ∧ i = .int .i64 (k : Int) ∧ R.length ≤ k * 20000 ∧ Duo w wr w.heap.size q s R s R NoX) (fun i _ => 60 - (intOf i).toNat)
  case atStart => exact ⟨0, st0, [], Nat.zero_le _, by decide, rfl, by simp, HD2.out⟩
  case round =>
    obtain ⟨k, s, R, hk, hk60, rfl, hRl, hduo⟩ := hrel
    have HD := Lib.hid hduo
    have HRL := Lib.hid hRl
    clear hduo hRl HD2
    by_cases hgo : k < P.length ∧ k < 60
    · obtain ⟨hk1, hk2⟩ := hgo
      have hg1 : (k : Int) < (P.length : Int) := by omega
      have hg2 : (k : Int) < 60 := by omega
      rcases HP.out.2.2 with ⟨hn, _⟩ | ⟨b, off, c0, hv, hbw, hsc, hcell⟩
      · rw [hn] at hk1; simp at hk1
      simp only [Value.slice.injEq] at hv
      obtain ⟨rfl, _, rfl⟩ := hv
      obtain ⟨x, hx⟩ : ∃ x, P[k] = x := ⟨_, rfl⟩
      have hxr := HP.out.1 x (hx ▸ List.getElem_mem hk1)
      have hcs : wr.cell? ⟨b, off + k, none⟩ = some x.1 := by
        rw [HD.out.low.cell (p := ⟨b, off + k, none⟩) hbw, hcell k hk1, hx]
      obtain ⟨pv, pl⟩ := x
      simp only at hxr hcs
      obtain ⟨pa, pc, hpv⟩ : ∃ a c, pv = .slice a pl.length c := by obtain ⟨a, len, c, e, h, _⟩ := hxr.1; exact ⟨a, c, by rw [e, h]⟩
      subst hpv
      have hpl : pl.length ≤ 140737488351232 := hxr.2
      have HPR := Lib.hid hxr.1
      clear hcell hx hxr
      go_upto_if 46 with fail
      go_cut [8] (fun pv' wx => ∃ a c, pv' = .slice a (pl.take 20000).length c ∧ RowB w (.slice a (pl.take 20000).length c) (pl.take 20000) ∧ wx = wr)
      case first =>
        by_cases hbig : 20000 < pl.length
        · have g1 : decide (20000 < (pl.length : Int)) = true := decide_eq_true (by omega)
          have g2 : (20000 : Int) ≤ (pl.length : Int) := by omega
          obtain ⟨ad, len, cap, e, hl, hc, hm, hw, hne, hcell⟩ := HPR.out
          simp only [Value.slice.injEq] at e
          obtain ⟨rfl, rfl, rfl⟩ := e
          have hcap : 20000 ≤ pc := by omega
          have hcapi : (20000 : Int) ≤ (pc : Int) := by omega
          have hpn : pa ≠ none := fun e => by have := (hne e).1; omega
          have hrow := HPR.out.head (n := 20000) (by omega) hpn
          have HROW := Lib.hid hrow
          have htl : (pl.take 20000).length = 20000 := by simp; omega
          have HTL := Lib.hid htl
          clear hcell hne hw hrow htl
          obtain ⟨pb, rfl⟩ : ∃ b, pa = some b := by cases pa with
            | none => exact absurd rfl hpn
            | some b => exact ⟨b, rfl⟩
          go_wp2_with fail
          go_meet
          exact ⟨_, _, by rw [HTL.out], by rw [HTL.out]; exact HROW.out, rfl⟩
        · have g1 : decide (20000 < (pl.length : Int)) = false := decide_eq_false (by omega)
          have g2 : ¬ (20000 < (pl.length : Int)) := by omega
          have htl : pl.take 20000 = pl := List.take_of_length_le (by omega)
          have HTL := Lib.hid htl
          clear htl hbig
          go_wp2_with fail
          go_meet
          exact ⟨_, _, by rw [HTL.out], by rw [HTL.out]; exact HPR.out, rfl⟩
      case rest =>
        obtain ⟨a, c, rfl, hrow, rfl⟩ := hcut
        have hll : (pl.take 20000).length ≤ 20000 := by simp; omega
        generalize pl.take 20000 = l at *
        have HROW := Lib.hid hrow
        clear hrow HPR hpl
        clear hg1 hg2
        go_wp2_with fail
        have hk20 : R.length + l.length ≤ (k + 1) * 20000 := by have := HRL.out; omega
        have hRb : R.length ≤ 1200000 := by have := HRL.out; omega
        have HK20 := Lib.hid hk20
        clear hk20
        have hrw := HROW.out.below HD.out.low
        refine (own_any _ l _ 71 hrw (by omega)).mono ?_
        rintro e w4 ⟨o, rfl, hof, hb4⟩
        have HD4 : Hid (Duo w w4 w.heap.size q s R s R (fun b => o.ownBlock = some b)) := Lib.hid (HD.out.other (Y := NoX) (Below.beside hb4) (fun b h => h.elim) _ (fun b h => .inr (hof.ge b h)))
        have HOF := Lib.hid hof
        clear hof hb4 hrw hcs
        go_wp2_with fail
        refine (HD4.out.put (HOF.out.row HROW.out.lt) (by omega)).mono ?_
        rintro e w5 ⟨rfl, hd5, _, hx5⟩
        have HOF5 := Lib.hid (HOF.out.same (w' := w5) hx5)
        obtain ⟨r', h', iv, cv, tv, T, lo, li, af, hdv⟩ := hd5
        have HDV := Lib.hid hdv
        obtain ⟨d0, d1, d2, d3, d4, d5, d6, d7, y0, y1, y2, y3, y4, y5, y6, y7⟩ := hdv.rf.b.at
        have hr2 := hdv.r2
        have hrow5 := HROW.out.below hdv.b
        have HNE := Lib.hid (ref_rest_ne hdv.rf.b hdv.r2)
        clear hx5 hdv HOF
        go_wp2_with (at_builtin; go_loud (refine applr rfl (.tmp 58) (.tmp 59) rfl hr2 hrow5 rfl rfl (by omega) ?_); intro o' w6 ho hg6 hm6; obtain ⟨oa, oc, rfl⟩ := ho.shape'; simp only [List.length_append] at ho hm6; have HPUSH := Lib.hid (HDV.out.push (by simpa using ho) hg6 hm6); obtain ⟨e0, e1, e2, e3, e4, e5, e6, e7, z0, z1, z2, z3, z4, z5, z6, z7⟩ := (HDV.out.rf.b.grown hg6 HNE.out).at; clear ho hg6 hm6)
        have HD7 := Lib.hid HPUSH.out.1
        have HOF7 := Lib.hid (HOF5.out.same HPUSH.out.2)
        clear d0 d1 d2 d3 d4 d5 d6 d7 y0 y1 y2 y3 y4 y5 y6 y7 e0 e1 e2 e3 e4 e5 e6 e7 z0 z1 z2 z3 z4 z5 z6 z7 HPUSH HOF5 HNE hr2 hrow5 HDV HD4
        generalize w6.setCell ⟨q, 0, none⟩ (.slice oa (R.length + l.length) oc) = w7 at *
        refine (kept_any HOF7.out (HROW.out.below HD7.out.low) (by omega)).mono ?_
        rintro e w8 ⟨rfl, hst8⟩
        have HD8 : Hid (Duo w w8 w.heap.size q s (R ++ l) s (R ++ l) (fun b => o.ownBlock = some b)) := Lib.hid (HD7.out.below hst8.1)
        have HOF8 := Lib.hid (HOF7.out.same (w' := w8) (fun b _ => by rw [hst8.2]))
        have hlen2 : (R ++ l).length ≤ 2000000 := by rw [List.length_append]; omega
        have HLEN := Lib.hid hlen2
        clear hst8 HD7 HOF7 hlen2
        go_wp2_with fail
        refine (HD8.out.held HLEN.out).mono ?_
        rintro e w9 ⟨rfl, hb9⟩
        have HD9 := Lib.hid (HD8.out.below hb9)
        have HOF9 := Lib.hid (HOF8.out.below hb9)
        clear hb9 HD8 HOF8
        go_wp2_with fail
        refine (HD9.out.rheld HLEN.out).mono ?_
        rintro e w10 ⟨rfl, hb10⟩
        have HD10 := Lib.hid (HD9.out.below hb10)
        have HOF10 := Lib.hid (HOF9.out.below hb10)
        clear hb10 HD9 HOF9
        go_wp2_with fail
        refine (spoil_full HOF10.out (by rw [List.length_append]; simp; omega)).mono ?_
        rintro e w11 ⟨rfl, hb11⟩
        have HD11 : Hid (Duo w w11 w.heap.size q s (R ++ l) s (R ++ l) NoX) := Lib.hid (HD10.out.other hb11 (fun b h => .inl h) NoX (fun b h => h.elim))
        clear hb11 HD10 HOF10

        go_upto_if 79 with fail
        go_cut [10] (fun nv wx => ∃ n : Nat, n ≤ 40 ∧ nv = .int .i64 (n : Int) ∧ wx = w11)
        case first =>
          by_cases hka : k < A.length
          · have g1 : (k : Int) < (A.length : Int) := by omega
            rcases HA.out.2 with ⟨hn, _⟩ | ⟨b2, off2, c2, hv2, hbw2, hsc2, hcell2⟩
            · rw [hn] at hka; simp at hka
            simp only [Value.slice.injEq] at hv2
            obtain ⟨rfl, _, rfl⟩ := hv2
            obtain ⟨z, hz⟩ : ∃ z, A[k] = z := ⟨_, rfl⟩
            have hcz : w11.cell? ⟨b2, off2 + k, none⟩ = some (.int .i64 z) := by
              rw [HD11.out.low.cell (p := ⟨b2, off2 + k, none⟩) hbw2, hcell2 k hka, hz]
            clear hcell2 hz
            go_wp2_with fail
            go_meet
            have hu := IntKind.wrap_u64 z
            have hnn : 0 ≤ IntKind.u64.wrap z := by rw [hu]; omega
            have hm0 : 0 ≤ (IntKind.u64.wrap z).tmod 6 := Int.tmod_nonneg _ hnn
            have hm6 : (IntKind.u64.wrap z).tmod 6 < 6 := Int.tmod_lt_of_pos _ (by decide)
            refine ⟨((IntKind.u64.wrap z).tmod 6).toNat, by omega, ?_, rfl⟩
            rw [Int.toNat_of_nonneg hm0]
            exact congrArg (Value.int IntKind.i64) (IntWalk.wrap64_in _ (by omega))
          · have g1 : ¬ ((k : Int) < (A.length : Int)) := by omega
            clear hka
            go_wp2_with fail
            go_meet
            exact ⟨40, Nat.le_refl _, rfl, rfl⟩
        case rest =>
          obtain ⟨n, hn40, rfl, rfl⟩ := hcut
          go_wp2_with fail
          go_loopw [11] (fun i wr => ∃ (j : Nat) (s : St) (R' : List Nat), j ≤ n ∧ i = .int .i64 (j : Int) ∧ R'.length ≤ (R ++ l).length ∧ Duo w wr w.heap.size q s R' s R' NoX) (fun i _ => n - (intOf i).toNat)
          case atStart => exact ⟨0, s, R ++ l, Nat.zero_le _, rfl, Nat.le_refl _, HD11.out⟩
          case round =>
            obtain ⟨j, s, R', hj, rfl, hRl, hduo⟩ := hrel
            have HE := Lib.hid hduo
            have HRL2 := Lib.hid hRl
            have HLEN2 : Hid (R'.length ≤ 2000000) := Lib.hid (Nat.le_trans hRl HLEN.out)
            clear hduo hRl HD11 HD
            by_cases hjn : j < n
            · have g1 : (j : Int) < (n : Int) := by omega
              obtain ⟨s', R2, kind, out, hrun, hr2, hk3⟩ := runS_eta s R'
              have HRUN := Lib.hid hrun
              have HR2 := Lib.hid hr2
              clear hrun hr2 hjn
              go_wp2_with fail
              refine (HE.out.ask HLEN2.out HRUN.out).mono ?_
              rintro e w12 ⟨o1, rfl, hd12, ho12⟩
              have HD12 := Lib.hid hd12
              have HO12 := Lib.hid ho12
              clear hd12 ho12
              go_wp2_with fail
              refine (HD12.out.rask HLEN2.out HRUN.out).mono ?_
              rintro e w13 ⟨o2, rfl, hd13, ho13, hx13⟩
              have HD13 := Lib.hid hd13
              have HO13 := Lib.hid ho13
              have HO1 := Lib.hid (HO12.out.same (w' := w13) hx13)
              have HOL : Hid (out.length ≤ 9223372036854775807) := Lib.hid (by obtain ⟨_, _, _, _, h1, h2, h3, _⟩ := ho13; unfold maxLen at h3; omega)
              clear hd13 ho13 hx13 HD12 HO12 HE
              go_wp2_with fail
              refine (bytes_any (HO1.out.row HO13.out.lt) HO13.out).mono ?_
              rintro e w14 ⟨rfl, rfl⟩
              simp only [decide_true]
              go_wp2_with fail
              refine (HD13.out.held (Nat.le_trans HR2.out HLEN2.out)).mono ?_
              rintro e w15 ⟨rfl, hb15⟩
              have HD15 := Lib.hid (HD13.out.below hb15)
              have HO15 := Lib.hid (HO1.out.keep hb15 (ownB_lt HO1.out))
              clear hb15 HD13 HO1 HO13
              go_wp2_with fail
              refine (HD15.out.rheld (Nat.le_trans HR2.out HLEN2.out)).mono ?_
              rintro e w16 ⟨rfl, hb16⟩
              have HD16 := Lib.hid (HD15.out.below hb16)
              have HO16 := Lib.hid (HO15.out.keep hb16 (ownB_lt HO15.out))
              clear hb16 HD15 HO15
              go_wp2_with fail
              refine (spoil_own HO16.out HOL.out).mono ?_
              rintro e w17 ⟨rfl, hb17⟩
              have HD17 : Hid (Duo w w17 w.heap.size q s' R2 s' R2 NoX) := Lib.hid (HD16.out.other hb17 (fun b h => .inl h) NoX (fun b h => h.elim))
              clear hb17 HD16 HO16
              go_wp2_with fail
              go_roundw
              case rel => exact ⟨j + 1, s', R2, by omega, by go_num, by have := HR2.out; have := HRL2.out; omega, HD17.out⟩
              case measure => simp [intOf]; omega
            · obtain rfl : j = n := by omega
              go_wp2_with fail
              go_roundw
              case rel => exact ⟨k + 1, s, R', by omega, by omega, by go_num, by have := HK20.out; have h2 := HRL2.out; rw [List.length_append] at h2; omega, HE.out⟩
              case measure => simp [intOf]; omega
    · have hex : (k = P.length ∨ ((60 : Int) < (P.length : Int) ∧ k = 60)) := by
        by_cases h : k < P.length
        · exact .inr ⟨by omega, by omega⟩
        · exact .inl (by omega)
      have HEX := Lib.hid hex
      have HLEN : Hid (R.length ≤ 2000000) := Lib.hid (by have := HRL.out; omega)
      clear hex hgo HRL
      rcases HEX.out with rfl | ⟨g1, rfl⟩
      all_goals
        clear HEX
        go_wp2_with fail
        go_loopw [16] (fun i wr => ∃ (m : Nat) (s : St) (R' : List Nat), m ≤ 2000 ∧ i = .int .i64 (m : Int) ∧ R'.length ≤ R.length ∧ Duo w wr w.heap.size q s R' s R' NoX) (fun i _ => 2000 - (intOf i).toNat)
        case atStart => exact ⟨0, s, R, Nat.zero_le _, rfl, Nat.le_refl _, HD.out⟩
        case round =>
          obtain ⟨m, s, R', hm, rfl, hRl, hduo⟩ := hrel
          have HE := Lib.hid hduo
          have HRL2 := Lib.hid hRl
          have HLEN3 : Hid (R'.length ≤ 2000000) := Lib.hid (Nat.le_trans hRl HLEN.out)
          clear hduo hRl HD
          by_cases hmn : m < 2000
          · skip
            have g1 : (m : Int) < 2000 := by omega
            obtain ⟨s', R2, kind, out, hrun, hr2, hk3⟩ := runS_eta s R'
            have HRUN := Lib.hid hrun
            have HR2 := Lib.hid hr2
            clear hrun hr2
            go_wp2_with fail
            refine (HE.out.ask HLEN3.out HRUN.out).mono ?_
            rintro e w12 ⟨o1, rfl, hd12, ho12⟩
            have HD12 := Lib.hid hd12
            have HO12 := Lib.hid ho12
            clear hd12 ho12
            go_wp2_with fail
            refine (HD12.out.rask HLEN3.out HRUN.out).mono ?_
            rintro e w13 ⟨o2, rfl, hd13, ho13, hx13⟩
            have HD13 := Lib.hid hd13
            have HO13 := Lib.hid ho13
            have HO1 := Lib.hid (HO12.out.same (w' := w13) hx13)
            have HOL : Hid (out.length ≤ 9223372036854775807) := Lib.hid (by obtain ⟨_, _, _, _, h1, h2, h3, _⟩ := ho13; unfold maxLen at h3; omega)
            clear hd13 ho13 hx13 HD12 HO12 HE
            go_wp2_with fail
            refine (bytes_any (HO1.out.row HO13.out.lt) HO13.out).mono ?_
            rintro e w14 ⟨rfl, rfl⟩
            simp only [decide_true]
            go_wp2_with fail
            refine (HD13.out.held (Nat.le_trans HR2.out HLEN3.out)).mono ?_
            rintro e w15 ⟨rfl, hb15⟩
            have HD15 := Lib.hid (HD13.out.below hb15)
            have HO15 := Lib.hid (HO1.out.keep hb15 (ownB_lt HO1.out))
            clear hb15 HD13 HO1 HO13
            go_wp2_with fail
            refine (HD15.out.rheld (Nat.le_trans HR2.out HLEN3.out)).mono ?_
            rintro e w16 ⟨rfl, hb16⟩
            have HD16 := Lib.hid (HD15.out.below hb16)
            have HO16 := Lib.hid (HO15.out.keep hb16 (ownB_lt HO15.out))
            clear hb16 HD15 HO15
            by_cases hk0 : kind = 0
            · have gk : ((kind : Int) == 0) = true := by simp [hk0]
              have gk2 : ((kind : Int) = 0) := by omega
              go_wp2_with fail
              go_ret
              exact ⟨rfl, HD16.out.low⟩
            · have gk : ((kind : Int) == 0) = false := beq_false_of_ne (by omega)
              have gk2 : ¬ ((kind : Int) = 0) := by omega
              have HDN : Hid (Duo w _ w.heap.size q s' R2 s' R2 NoX) := Lib.hid (HD16.out.other (Y := NoX) (Beside.refl _ _) (fun b h => h.elim) NoX (fun b h => h.elim))
              clear hk0 HD16 HO16
              go_wp2_with fail
              go_roundw
              case rel =>
                first
                  | exact ⟨m + 1, s', R2, by omega, by go_num, by have := HR2.out; have := HRL2.out; omega, HDN.out⟩
                  | (repeat apply Exists.intro)
                    refine ⟨?_, rfl⟩
                    exact ⟨m + 1, s', R2, by omega, by go_num, by have := HR2.out; have := HRL2.out; omega, HDN.out⟩
              case measure => simp [intOf]; omega
          · have g1 : ¬ ((m : Int) < 2000) := by omega
            clear hmn
            go_wp2_with fail
            go_ret
            exact ⟨rfl, HE.out.low⟩

end Go.Proofs.Ytgafalobbhoaoaa
