/-
  Several texts of one proof, each in a section of its own: SecC, OnlyW, PartsW.
-/
import Derived.Test.YtnncldnpkfjhbaaGreatDoorMg23
import Derived.Test.YtnncldnpkfjhbaaGreatDoorMg20
import Derived.Test.YtnncldnpkfjhbaaGreatDoorMg18
import Derived.BigQuiet
import Derived.Deep.QuietTactic
namespace Go.Proofs.YtnncldnpkfjhbaaGreatDoor
section
set_option linter.unusedVariables false
open Go.RowKit Go.Lib Go.Shelf Go.Joins
attribute [local go_sem] Oper.semAt_some

/-- numbers, wherever they lie -/
def IntsIn (w : World) (v : Value) (L : List Int) : Prop :=
  ∃ a c, v = .slice a L.length c ∧ L.length ≤ c ∧ (∀ z ∈ L, -9223372036854775808 ≤ z ∧ z ≤ 9223372036854775807) ∧ (L = [] ∨ ∃ b off, a = some ⟨b, off, none⟩ ∧ b < w.heap.size ∧ ∀ i (h : i < L.length), w.cell? ⟨b, off + i, none⟩ = some (.int .i64 L[i]))
theorem IntsIn.below {w w' : World} {v : Value} {L : List Int} (h : IntsIn w v L) (hb : Below w.heap.size w w') : IntsIn w' v L := by
  obtain ⟨a, c, e, hc, hz, h | ⟨b, off, ha, hlt, hi⟩⟩ := h
  · exact ⟨a, c, e, hc, hz, .inl h⟩
  · exact ⟨a, c, e, hc, hz, .inr ⟨b, off, ha, Nat.lt_of_lt_of_le hlt hb.size, fun i h => (hb.cell (p := ⟨b, off + i, none⟩) hlt).trans (hi i h)⟩⟩
theorem ints_nil (w : World) : IntsIn w (.slice none 0 0) [] := ⟨none, 0, rfl, Nat.le_refl _, by simp, .inl rfl⟩

def rootP (l : List Nat) : PT := partS l 6 0 l.length
/-- what Find tells -/
def FindOk (l : List Nat) (L : List Int) (w : World) (e : Ending) (W' : World) : Prop :=
  ∃ u q ok, e = .returned (.tuple #[u, .bool ok]) ∧ PartA (fun g => w.heap.size ≤ g) W' q u ∧ (ok = true → findP (rootP l) L = some q) ∧ (ok = false → findP (rootP l) L = none) ∧ Below w.heap.size w W'
theorem res11 (tmps : Array Value) (W : World) (b : Nat) (ok : Bool) (x0 x1 x2 x3 x4 x5 x6 : Value) (h : tmps[4]?.getD undef = .pointer (some ⟨b, 0, none⟩)) (h5 : tmps[5]?.getD undef = .bool ok) (hc : W.heap[b]? = some (.cells #[x0, x1, x2, x3, x4, x5, x6] 37 (0, 0))) : (results Tryz.f11 tmps).run Tryz.prog W = .ok (.tuple #[.agg #[x0, x1, x2, x3, x4, x5, x6], .bool ok]) W := by
  obtain ⟨m0, m1, m2, m3, m4, m5, m6⟩ := cells7 hc
  simp [results, Tryz.results11, h, h5, asAddr, loadVar, go_sem, m0, m1, m2, m3, m4, m5, m6]
theorem fin11 {l : List Nat} {L : List Int} {q : PT} {w W : World} {k : Nat} {ok : Bool} {x0 x1 x2 x3 x4 x5 x6 z0 z1 z2 z3 z4 z5 z6 : Value} {tmps : Array Value} (h : tmps[4]?.getD undef = .pointer (some ⟨w.heap.size, 0, none⟩)) (h5 : tmps[5]?.getD undef = .bool ok)
    (hz : W.heap[w.heap.size]? = some (.cells #[z0, z1, z2, z3, z4, z5, z6] 37 (0, 0))) (hp : PtV k (fun g => w.heap.size < g) W q [x0, x1, x2, x3, x4, x5, x6]) (hb : Below w.heap.size w W)
    (h1 : ok = true → findP (rootP l) L = some q) (h2 : ok = false → findP (rootP l) L = none) : bodyPost Tryz.prog Tryz.f11 (FindOk l L w) Exit.ret { tmps := tmps, defers := [] } (set7 W w.heap.size x0 x1 x2 x3 x4 x5 x6) := by
  refine bodyPost_ret (res11 tmps _ _ ok _ _ _ _ _ _ _ h h5 (block7 hz _ _ _ _ _ _ _)) rfl ⟨_, q, ok, rfl, ?_, h1, h2, below7 hb _ _ _ _ _ _ _⟩
  exact PartA.of (hp.keep (fun g hg => Nat.le_of_lt hg) (fun g hg C fz _ => other7 _ _ _ (by omega) _ _ _ _ _ _ _))
/-- the loop of Find, j numbers gone -/
def FnI (l : List Nat) (L : List Int) (n b : Nat) (w : World) (j : Nat) (wr : World) : Prop :=
  ∃ (k : Nat) (q : PT) (K0 S0 : ByteArray) (h0 f0 t0 n0 : Nat) (a : Option Addr) (kn c : Nat), wr.heap[b]? = some (.cells #[.string K0, .string S0, .int .i64 (h0 : Nat), .int .i64 (f0 : Nat), .int .i64 (t0 : Nat), .int .i64 (n0 : Nat), .slice a kn c] 37 (0, 0)) ∧
    PtV k (fun g => n < g ∧ g < b) wr q [.string K0, .string S0, .int .i64 (h0 : Nat), .int .i64 (f0 : Nat), .int .i64 (t0 : Nat), .int .i64 (n0 : Nat), .slice a kn c] ∧ findP (rootP l) L = findP q (L.drop j) ∧
    wr.heap[n]? = some (.cells #[.string ⟨#[]⟩, .string ⟨#[]⟩, .int .i64 0, .int .i64 0, .int .i64 0, .int .i64 0, .slice none 0 0] 37 (0, 0)) ∧ Below n w wr

set_option maxRecDepth 100000 in
set_option maxHeartbeats 8000000 in
theorem find_any (v pv : Value) (l : List Nat) (L : List Int) (w : World) (hr : RowB w v l) (hl : l.length ≤ 100000) (hL : IntsIn w pv L) (hLl : L.length ≤ 1000000) : Calls Tryz.prog 11 #[v, pv] w (FindOk l L w) := by
  obtain ⟨pa, pc, rfl, hpc, hzs, -⟩ := id hL
  have HPA := Lib.hid (parse_any v l (w.alloc (.cells #[.string ⟨#[]⟩, .string ⟨#[]⟩, .int .i64 0, .int .i64 0, .int .i64 0, .int .i64 0, .slice none 0 0] 37)) (hr.below ((Below.refl _ w).alloc (Nat.le_refl _) _)) hl)
  have HL := Lib.hid (And.intro hL hzs)
  have hLz : (L.length : Int) ≤ 1000000 := by omega
  clear hL hzs hr
  go_enter Tryz.func11, Tryz.ntmps11
  go_upto_region 2 with (go_at_call 19; refine HPA.out.mono ?_; rintro e w1 ⟨u, rfl, hu, hb1⟩; obtain ⟨k, K0, S0, h0, f0, t0, n0, ka, kn, kc, rfl, hpv, -⟩ := hu.open)
  obtain ⟨b, hbb⟩ : ∃ b, w1.heap.size = b := ⟨_, rfl⟩
  have hs1 := hb1.size
  simp at hs1
  have h0 : FnI l L w.heap.size w1.heap.size w 0 (w1.alloc (.cells #[.string K0, .string S0, .int .i64 (h0 : Nat), .int .i64 (f0 : Nat), .int .i64 (t0 : Nat), .int .i64 (n0 : Nat), .slice ka kn kc] 37)) := by
    refine ⟨k, _, K0, S0, h0, f0, t0, n0, ka, kn, kc, heap_alloc_new _ _, hpv.lt.keep (fun g hg => ⟨by have := hg.1; simp at this; omega, hg.2⟩) (fun g hg C fz _ => Below.heap_alloc _ _ _ hg.2), rfl, ?_, ?_⟩
    · rw [Below.heap_alloc _ _ _ (by omega), hb1.block _ (by simp), heap_alloc_new]
    · exact (((Below.refl _ w).alloc (Nat.le_refl _) _).trans (hb1.mono (by simp))).alloc (by omega) _
  rw [hbb] at h0 ⊢
  have hnb : w.heap.size < b := by omega
  have HI0 := Lib.hid h0
  clear h0 hbb hs1 hb1 hpv hu HPA
  generalize w1.alloc (.cells #[.string K0, .string S0, .int .i64 (h0 : Nat), .int .i64 (f0 : Nat), .int .i64 (t0 : Nat), .int .i64 (n0 : Nat), .slice ka kn kc] 37) = W1 at *
  go_wp2_with fail
  go_loopw [15] (fun i wr => ∃ j : Nat, j ≤ L.length ∧ i = .int .i64 (j : Nat) ∧ FnI l L w.heap.size b w j wr) (fun i _ => L.length - (RowKit.intOf i).toNat)
  case atStart => exact ⟨0, Nat.zero_le _, rfl, HI0.out⟩
  case round =>
    obtain ⟨j, hj, rfl, k, q, K1, S1, h1, f1, t1, n1, a1, kn1, c1, hq, hpv, hfd, hn, hb⟩ := hrel
    rename World => wr
    obtain ⟨g0, g1, g2, g3, g4, g5, g6⟩ := cells7 hq
    obtain ⟨v0, v1, v2, v3, v4, v5, v6⟩ := free7 hq
    obtain ⟨m0, m1, m2, m3, m4, m5, m6⟩ := cells7 hn
    obtain ⟨u0, u1, u2, u3, u4, u5, u6⟩ := free7 hn
    by_cases hlt : j < L.length
    · have hlz : (j : Int) < (L.length : Int) := by omega
      obtain ⟨pa', pc', e, -, -, hh⟩ := HL.out.1.below hb
      obtain ⟨rfl, -, rfl⟩ := Value.slice.inj e
      rcases hh with rfl | ⟨pb, po, rfl, hpl, hcell⟩
      · simp at hlt
      have hck := hcell j hlt
      have hjc : (j : Int) < (pc : Int) := by omega
      obtain ⟨z, hz⟩ : ∃ z, L[j] = z := ⟨_, rfl⟩
      have hzr := HL.out.2 _ (List.getElem_mem hlt)
      rw [hz] at hck hzr
      have hld := lead_any _ q _ z wr (PartA.of hpv) hzr
      have hdr : L.drop j = z :: L.drop (j + 1) := by rw [List.drop_eq_getElem_cons hlt, hz]
      have HLD := Lib.hid hld
      have HW := Lib.hid (And.intro hq (And.intro hpv (And.intro hfd (And.intro hn (And.intro hb hdr)))))
      clear hld hq hpv hfd hn hb hdr hz hcell e hzr
      go_upto_region 6 with (go_at_call 20; refine HLD.out.mono ?_; rintro e w2 ⟨u, q2, ok, rfl, hu, hok1, hok2, hb2⟩; obtain ⟨k2, K2, S2, h2, f2, t2, n2, a2, kn2, c2, rfl, hpv2, -⟩ := hu.open)
      have hs2 := hb2.size
      have hbs : b < wr.heap.size := (Array.getElem?_eq_some_iff.1 HW.out.1).1
      have hb3 : Below wr.heap.size wr (w2.alloc (.cells #[.string K2, .string S2, .int .i64 (h2 : Nat), .int .i64 (f2 : Nat), .int .i64 (t2 : Nat), .int .i64 (n2 : Nat), .slice a2 kn2 c2] 37)) := hb2.alloc hs2 _
      have hq3 := (hb3.block _ hbs).trans HW.out.1
      have hn3 := (hb3.block _ (Array.getElem?_eq_some_iff.1 HW.out.2.2.2.1).1).trans HW.out.2.2.2.1
      have hbw3 := HW.out.2.2.2.2.1.trans (hb3.mono HW.out.2.2.2.2.1.size)
      have hp3 := hpv2.lt.keep (W' := w2.alloc (.cells #[.string K2, .string S2, .int .i64 (h2 : Nat), .int .i64 (f2 : Nat), .int .i64 (t2 : Nat), .int .i64 (n2 : Nat), .slice a2 kn2 c2] 37)) (fun g hg => hg.1) (fun g hg C fz _ => Below.heap_alloc _ _ _ hg.2)
      have hx3 := heap_alloc_new w2 (.cells #[.string K2, .string S2, .int .i64 (h2 : Nat), .int .i64 (f2 : Nat), .int .i64 (t2 : Nat), .int .i64 (n2 : Nat), .slice a2 kn2 c2] 37)
      generalize w2.alloc (.cells #[.string K2, .string S2, .int .i64 (h2 : Nat), .int .i64 (f2 : Nat), .int .i64 (t2 : Nat), .int .i64 (n2 : Nat), .slice a2 kn2 c2] 37) = W3 at *
      obtain ⟨s2, hss⟩ : ∃ s2, w2.heap.size = s2 := ⟨_, rfl⟩
      rw [hss] at hx3 ⊢
      obtain ⟨g0, g1, g2, g3, g4, g5, g6⟩ := cells7 hq3
      obtain ⟨v0, v1, v2, v3, v4, v5, v6⟩ := free7 hq3
      obtain ⟨m0, m1, m2, m3, m4, m5, m6⟩ := cells7 hn3
      obtain ⟨u0, u1, u2, u3, u4, u5, u6⟩ := free7 hn3
      obtain ⟨r0, r1, r2, r3, r4, r5, r6⟩ := cells7 hx3
      have H3 := Lib.hid (And.intro hq3 (And.intro hn3 (And.intro hbw3 hp3)))
      have HOK := Lib.hid (And.intro hok1 hok2)
      clear hq3 hn3 hbw3 hp3 hx3 hb3 hb2 hpv2 hu hok1 hok2 hs2 hss
      clear w2
      cases ok with
      | false =>
        have HOF := Lib.hid (HOK.out.2 rfl)
        clear HOK
        go_wp2_with fail
        refine fin11 (ok := false) (q := zeroP) (k := 0) rfl rfl H3.out.2.1 ⟨rfl, rfl⟩ H3.out.2.2.1 (by simp) (fun _ => ?_)
        rw [HW.out.2.2.1, HW.out.2.2.2.2.2, findP, HOF.out]
      | true =>
        have HOT := Lib.hid (HOK.out.1 rfl)
        clear HOK
        go_wp2_with fail
        go_roundw
        case rel =>
          refine ⟨j + 1, by omega, by go_num, k2, q2, K2, S2, h2, f2, t2, n2, a2, kn2, c2, block7 H3.out.1 _ _ _ _ _ _ _, H3.out.2.2.2.keep (fun g hg => hg) (fun g hg C fz _ => other7 _ _ _ (by have := hg.2; omega) _ _ _ _ _ _ _), ?_, (other7 _ _ _ (by omega) _ _ _ _ _ _ _).trans H3.out.2.1, below7' H3.out.2.2.1 (by omega) _ _ _ _ _ _ _⟩
          rw [HW.out.2.2.1, HW.out.2.2.2.2.2, findP, HOT.out]
        case measure => simp [RowKit.intOf]; omega
    · have hlz : ¬ (j : Int) < (L.length : Int) := by omega
      have HW := Lib.hid (And.intro hn (And.intro hb (And.intro hpv hfd)))
      clear hn hb hpv hfd hq
      go_wp2_with fail
      refine fin11 (ok := true) rfl rfl HW.out.1 (HW.out.2.2.1.keep (fun g hg => hg.1) (fun _ _ _ _ _ => rfl)) HW.out.2.1 (fun _ => ?_) (by simp)
      rw [HW.out.2.2.2, List.drop_of_length_le (by omega)]
      rfl
end
section
set_option linter.unusedVariables false
open Go.RowKit Go.Lib
attribute [local go_sem] Oper.semAt_some

theorem RowT.rowB {W : World} {n E : Nat} {v : Value} {T : List Nat} (h : RowT W n E v T) (hl : ∀ c ∈ T, c < 256) : RowB W v T := by
  rcases h with ⟨rfl, rfl⟩ | ⟨b, cap, cur, fz, rfl, h1, h2, h3, h4, h5, h6, h7⟩
  · exact rowB_nil W
  · refine ⟨_, _, _, rfl, rfl, h4, h5, hl, by simp, fun x hx i hi => ?_⟩
    obtain rfl := Option.some.inj hx
    rw [Addr.add_lit, Nat.zero_add, cell_of_row W b i cur 5 fz h3]
    have : (cur.toList.take (T.length * 1))[i]? = some (.int .u8 (T[i] : Nat)) := by rw [h7, u8s_get T i hi]
    rw [List.getElem?_take_of_lt (by omega)] at this
    simpa using this

set_option maxRecDepth 100000 in
set_option maxHeartbeats 4000000 in
theorem only_any (v vn : Value) (l : List Nat) (S : List ByteArray) (nt : Bool) (w : World) (hr : RowB w v l) (hl : l.length ≤ 100000) (hS : StrsIn w vn S) (hSl : S.length ≤ 1000000) :
    Calls Tryz.prog 24 #[v, vn, .bool nt] w fun e w' => ∃ o, e = .returned o ∧ OwnB w' w.heap.size o (onlyS l S nt) ∧ Below w.heap.size w w' := by
  obtain ⟨na, nc, rfl⟩ := hS.shape
  have HB := Lib.hid (fieldsS_bts hr.lt)
  have HLN := Lib.hid (fieldsS_len l)
  have HPL := Lib.hid (pick_len l S nt)
  have HC := Lib.hid (flds_any v l w hr hl)
  have HS := Lib.hid hS
  clear hr hS
  go_enter Tryz.func24, Tryz.ntmps24
  go_wp2_with fail
  refine HC.out.mono ?_
  rintro e w1 ⟨vf, gs, E, rfl, hrow, hfin, hb1⟩
  have hlen := fin2_len _ _ hfin
  have hrd := fin2_read _ _ hfin
  obtain ⟨n, hn⟩ : ∃ n, w.heap.size = n := ⟨_, rfl⟩
  obtain ⟨M, hM⟩ : ∃ M, w1.heap.size = M := ⟨_, rfl⟩
  have hnM : n ≤ M := by rw [← hn, ← hM]; exact hb1.size
  rw [hn] at hb1
  rw [hM] at hrd
  rw [hn] at hrow hrd hfin
  obtain ⟨fa, fc, rfl⟩ : ∃ fa fc, vf = .slice fa gs.length fc := by
    rcases hrow.2 with ⟨e, h0⟩ | ⟨g, cap, cur, e, _⟩
    · exact ⟨_, _, by rw [e, h0]⟩
    · exact ⟨_, _, e⟩
  have hcell : ∀ k (h : k < gs.length) (W : World), Below M w1 W → ∃ fb, fa = some ⟨fb, 0, none⟩ ∧ W.cell? ⟨fb, k, none⟩ = some (.pointer (some ⟨gs[k], 0, none⟩)) := by
    intro k h W hk
    rcases hrow.2 with ⟨e, h0⟩ | ⟨g, cap, cur, e, hb, hh, h1, h2, h3, h4⟩
    · omega
    · simp only [Value.slice.injEq] at e
      obtain ⟨rfl, -, -⟩ := e
      have hg := (Array.getElem?_eq_some_iff.1 hh).1
      refine ⟨g, rfl, ?_⟩
      rw [cell_of_row W g k cur 79 _ ((hk.block g (by omega)).trans hh)]
      have : (cur.toList.take (gs.length * 1))[k]? = some (.pointer (some ⟨gs[k], 0, none⟩)) := by rw [h4]; simp [ptrs, h]
      rw [List.getElem?_take_of_lt (by omega)] at this
      simpa using this
  have HCELL := Lib.hid hcell
  have HRD := Lib.hid hrd
  have HLEN := Lib.hid hlen
  have HB1 := Lib.hid hb1
  have HM := Lib.hid hM
  have HN := Lib.hid hn
  clear hrow hfin hcell hrd hlen hb1 hM hn HC
  go_wp2_with fail
  go_loopw [7, 16] (fun out i wr => ∃ (k : Nat) (oa : Option Addr) (om oc : Nat), k ≤ gs.length ∧ i = .int .i64 k ∧ out = .slice oa om oc ∧ OwnB wr M out (rawF (pickF S nt ((fieldsS l).take k))) ∧ Below n w wr ∧ Below M w1 wr) (fun _ i _ => gs.length - (RowKit.intOf i).toNat)
  case atStart => exact ⟨0, none, 0, 0, Nat.zero_le _, rfl, rfl, World.ownsRow_nil _ _ _ _, HB1.out, Below.refl _ _⟩
  case round =>
    obtain ⟨k, oa, om, oc, hk, rfl, rfl, hown, hbel, hkc⟩ := hrel
    by_cases hkl : k < gs.length
    · have hkf : k < (fieldsS l).length := by rw [HLEN.out]; exact hkl
      obtain ⟨fb, rfl, hpc⟩ := HCELL.out k hkl wr hkc
      have hfr := (HRD.out k hkf hkl).keep (KeepC.below hkc)
      have hbt := HB.out _ (List.getElem_mem hkf)
      have hsn := pickF_snoc S nt (fieldsS l) k hkf
      have hkn : k + 1 ≤ 100000 := by have := HLN.out; omega
      obtain ⟨g, hg⟩ : ∃ g, gs[k] = g := ⟨_, rfl⟩
      obtain ⟨⟨nm, T, R⟩, hf⟩ : ∃ f, (fieldsS l)[k] = f := ⟨_, rfl⟩
      rw [hg] at hpc hfr
      rw [hf] at hfr hbt hsn
      have hpl1 := HPL.out k
      have hpl2 := HPL.out (k + 1)
      rw [hsn] at hpl2
      have HSN := Lib.hid hsn
      have hMw : M ≤ wr.heap.size := by have := hkc.size; have := HM.out; omega
      have hname : wr.cell? ⟨g, 0, none⟩ = some (.string nm) := by
        obtain ⟨_, a, v, r, fz, h1, _⟩ := hfr
        exact cell_of_row _ _ 0 _ _ _ h1
      have hgM : g < M := hfr.1.2
      have HFR : Hid (FinR wr (n + 3) M g ⟨nm, T, R⟩) := Lib.hid hfr
      have HRT : Hid (∀ c ∈ R, c < 256) := Lib.hid hbt.2
      have HP2 : Hid (rawF (pickF S nt ((fieldsS l).take k)) ++ (if keepB S nt ⟨nm, T, R⟩ = true then R else []) = rawF (pickF S nt ((fieldsS l).take k)) ++ (if keepB S nt ⟨nm, T, R⟩ = true then R else []) ∧ (rawF (pickF S nt ((fieldsS l).take k)) ++ (if keepB S nt ⟨nm, T, R⟩ = true then R else [])).length ≤ l.length) := Lib.hid ⟨rfl, hpl2⟩
      have HOWN := Lib.hid hown
      have HBEL := Lib.hid hbel
      have HKC := Lib.hid hkc
      clear hsn hg hf hown hbel hkc hfr hbt hpl1 hpl2
      go_wp2_with fail
      rename World => wo
      go_loopw [10, 22] (fun am i wq => ∃ (j : Nat), j ≤ S.length ∧ i = .int .i64 j ∧ am = .bool (amongB (S.take j) nm) ∧ Below wo.heap.size wo wq) (fun _ i _ => S.length - (RowKit.intOf i).toNat)
      case atStart => exact ⟨0, Nat.zero_le _, rfl, rfl, Below.refl _ _⟩
      case round =>
        rename World => wq
        obtain ⟨j, hj, rfl, rfl, hbq⟩ := hrel
        by_cases hjl : j < S.length
        · obtain ⟨b0, o0, hc0⟩ := HS.out.at
          obtain ⟨rfl, hb0, hcc0⟩ := hc0 j hjl
          have hb0n : b0 < n := by rw [← HN.out]; exact hb0
          have kc0 : wq.cell? ⟨b0, o0 + j, none⟩ = some (.string S[j]) := (hbq.cell (p := ⟨b0, o0 + j, none⟩) (by show b0 < _; omega)).trans ((HBEL.out.cell (p := ⟨b0, o0 + j, none⟩) hb0n).trans hcc0)
          have kn : wq.cell? ⟨g, 0, none⟩ = some (.string nm) := (hbq.cell (p := ⟨g, 0, none⟩) (by show g < _; omega)).trans hname
          have hsz := HS.out.1 _ (List.getElem_mem hjl)
          have hsn := amongB_snoc S j hjl nm
          have hji : (j : Int) < (S.length : Int) := by omega
          have hqs := hbq.size
          generalize S[j] = sj at *
          have HSZ := Lib.hid hsz
          have HAS := Lib.hid hsn
          have HBQ := Lib.hid hbq
          clear hc0 hcc0 hsz hsn hbq
          cases ham : amongB (S.take j) nm
          · have HAM := Lib.hid ham
            clear ham
            cases hcmp : ((strL (foldL sj.data.toList)).toList == nm.toList)
            · have HNX : Hid (amongB (S.take (j + 1)) nm = false) := Lib.hid (by rw [HAS.out, HAM.out, hcmp]; rfl)
              have HF := Lib.hid (fun W => FoldN_any sj HSZ.out W)
              go_wp2_with fail
              go_region_held3 (fun w' => w'.cell? ⟨g, 0, none⟩ = some (.string nm))
                (first | with_reducible exact kb | with_reducible exact kn | go_keep)
                ((go_at_call 41; refine (HF.out _).mono ?_; rintro e w2 ⟨rfl, hb2⟩; have kb : w2.cell? ⟨g, 0, none⟩ = some (.string nm) := (hb2.cell (p := ⟨g, 0, none⟩) (by show g < wq.heap.size; omega)).trans kn; have HB2 := Lib.hid hb2; clear hb2))
              go_wp2_with fail
              go_roundw
              case rel => exact ⟨j + 1, by omega, by go_num, by rw [HNX.out], (HBQ.out.drew).trans (HB2.out.mono (by show wo.heap.size ≤ wq.heap.size; omega))⟩
              case measure => simp [RowKit.intOf]; omega
            · have HNX : Hid (amongB (S.take (j + 1)) nm = true) := Lib.hid (by rw [HAS.out, HAM.out, hcmp]; rfl)
              have HF := Lib.hid (fun W => FoldN_any sj HSZ.out W)
              go_wp2_with fail
              go_region_held3 (fun w' => w'.cell? ⟨g, 0, none⟩ = some (.string nm))
                (first | with_reducible exact kb | with_reducible exact kn | go_keep)
                ((go_at_call 41; refine (HF.out _).mono ?_; rintro e w2 ⟨rfl, hb2⟩; have kb : w2.cell? ⟨g, 0, none⟩ = some (.string nm) := (hb2.cell (p := ⟨g, 0, none⟩) (by show g < wq.heap.size; omega)).trans kn; have HB2 := Lib.hid hb2; clear hb2))
              go_wp2_with fail
              go_roundw
              case rel => exact ⟨j + 1, by omega, by go_num, by rw [HNX.out], (HBQ.out.drew).trans (HB2.out.mono (by show wo.heap.size ≤ wq.heap.size; omega))⟩
              case measure => simp [RowKit.intOf]; omega
          · have HNX : Hid (amongB (S.take (j + 1)) nm = true) := Lib.hid (by rw [HAS.out, ham]; rfl)
            clear ham
            go_wp2_with fail
            go_quiet (fail)
            go_wp2_with fail
            go_roundw
            case rel => exact ⟨j + 1, by omega, by go_num, by rw [HNX.out], below_drewN HBQ.out _⟩
            case measure => simp [RowKit.intOf]; omega
        · obtain rfl : j = S.length := by omega
          rw [List.take_length]
          obtain ⟨a3, c3, r3, fz3, hrow3, hraw3⟩ : ∃ (a : Value) (v r : Value) (fz : Nat × Nat), wq.heap[g]? = some (.cells #[.string nm, a, v, r] 84 fz) ∧ RowT wq (n + 3) M r R := by
            obtain ⟨_, a, v, r, fz, h1, _, h3⟩ := HFR.out.keep (KeepC.below (hbq.mono hMw))
            exact ⟨a, v, r, fz, h1, h3⟩
          have kr : wq.cell? ⟨g, 3, none⟩ = some r3 := cell_of_row _ _ 3 _ _ _ hrow3
          have HFQ : Hid (True ∧ RowT wq (n + 3) M r3 R) := Lib.hid ⟨trivial, hraw3⟩
          have hqs := hbq.size
          have HOWQ : Hid (OwnB wq M (.slice oa om oc) (rawF (pickF S nt ((fieldsS l).take k)))) := Lib.hid (OwnB.keep HOWN.out hbq (ownB_lt HOWN.out))
          have HBW : Hid (Below n w wq) := Lib.hid (HBEL.out.trans (hbq.mono (by omega)))
          have HKW : Hid (Below M w1 wq) := Lib.hid (HKC.out.trans (hbq.mono hMw))
          clear hbq hrow3 hraw3
          cases ham : amongB S nm
          · cases nt
            · have hkeep : keepB S false ⟨nm, T, R⟩ = false := by unfold keepB; simp only; rw [ham]; rfl
              clear ham
              have HNX : Hid (rawF (pickF S false ((fieldsS l).take (k + 1))) = rawF (pickF S false ((fieldsS l).take k))) := Lib.hid (by rw [HSN.out, if_neg (by rw [hkeep]; exact Bool.false_ne_true), List.append_nil])
              clear hkeep
              go_wp2_with fail
              go_roundw
              case rel =>
                refine ⟨k + 1, oa, om, oc, by omega, by go_num, rfl, ?_, HBW.out, HKW.out⟩
                rw [HNX.out]
                exact HOWQ.out
              case measure => simp [RowKit.intOf]; omega
            · have hkeep : keepB S true ⟨nm, T, R⟩ = true := by unfold keepB; simp only; rw [ham]; rfl
              clear ham
              have HNX : Hid (rawF (pickF S true ((fieldsS l).take (k + 1))) = rawF (pickF S true ((fieldsS l).take k)) ++ R) := Lib.hid (by rw [HSN.out, if_pos hkeep])
              have HLX : Hid ((rawF (pickF S true ((fieldsS l).take k))).length + R.length ≤ 100000) := Lib.hid (by have := HP2.out.2; rw [if_pos hkeep, List.length_append] at this; omega)
              clear hkeep
              go_wp2_with (at_builtin; go_loud (refine applw rfl (.tmp 40) (.tmp 44) rfl HOWQ.out (RowT.rowB HFQ.out.2 HRT.out) (by omega) rfl rfl (by have := HLX.out; omega) ?_); intro o5 w5 ho5 hg5 _; have HO5 := Lib.hid ho5; have HB5 := Lib.hid (HBW.out.grown hg5 (by omega) (fun j e => by have := OwnB.ownLe HOWQ.out j e; omega)); have HK5 := Lib.hid (HKW.out.grown hg5 (by omega) (fun j e => OwnB.ownLe HOWQ.out j e)); obtain ⟨a5, c5, e5⟩ := ho5.shape; subst e5; clear ho5 hg5)
              go_roundw
              case rel =>
                refine ⟨k + 1, a5, _, c5, by omega, by go_num, rfl, ?_, HB5.out, HK5.out⟩
                rw [HNX.out]
                have h5 := HO5.out
                rwa [List.length_append] at h5
              case measure => simp [RowKit.intOf]; omega
          · cases nt
            · have hkeep : keepB S false ⟨nm, T, R⟩ = true := by unfold keepB; simp only; rw [ham]; rfl
              clear ham
              have HNX : Hid (rawF (pickF S false ((fieldsS l).take (k + 1))) = rawF (pickF S false ((fieldsS l).take k)) ++ R) := Lib.hid (by rw [HSN.out, if_pos hkeep])
              have HLX : Hid ((rawF (pickF S false ((fieldsS l).take k))).length + R.length ≤ 100000) := Lib.hid (by have := HP2.out.2; rw [if_pos hkeep, List.length_append] at this; omega)
              clear hkeep
              go_wp2_with (at_builtin; go_loud (refine applw rfl (.tmp 40) (.tmp 44) rfl HOWQ.out (RowT.rowB HFQ.out.2 HRT.out) (by omega) rfl rfl (by have := HLX.out; omega) ?_); intro o5 w5 ho5 hg5 _; have HO5 := Lib.hid ho5; have HB5 := Lib.hid (HBW.out.grown hg5 (by omega) (fun j e => by have := OwnB.ownLe HOWQ.out j e; omega)); have HK5 := Lib.hid (HKW.out.grown hg5 (by omega) (fun j e => OwnB.ownLe HOWQ.out j e)); obtain ⟨a5, c5, e5⟩ := ho5.shape; subst e5; clear ho5 hg5)
              go_roundw
              case rel =>
                refine ⟨k + 1, a5, _, c5, by omega, by go_num, rfl, ?_, HB5.out, HK5.out⟩
                rw [HNX.out]
                have h5 := HO5.out
                rwa [List.length_append] at h5
              case measure => simp [RowKit.intOf]; omega
            · have hkeep : keepB S true ⟨nm, T, R⟩ = false := by unfold keepB; simp only; rw [ham]; rfl
              clear ham
              have HNX : Hid (rawF (pickF S true ((fieldsS l).take (k + 1))) = rawF (pickF S true ((fieldsS l).take k))) := Lib.hid (by rw [HSN.out, if_neg (by rw [hkeep]; exact Bool.false_ne_true), List.append_nil])
              clear hkeep
              go_wp2_with fail
              go_roundw
              case rel =>
                refine ⟨k + 1, oa, om, oc, by omega, by go_num, rfl, ?_, HBW.out, HKW.out⟩
                rw [HNX.out]
                exact HOWQ.out
              case measure => simp [RowKit.intOf]; omega
    · obtain rfl : k = gs.length := by omega
      have ht : rawF (pickF S nt ((fieldsS l).take gs.length)) ++ [13, 10] = onlyS l S nt := by rw [List.take_of_length_le (by rw [HLEN.out]; exact Nat.le_refl _)]; rfl
      have hlt := HPL.out gs.length
      have HT := Lib.hid ht
      have HLT := Lib.hid hlt
      have HOWN := Lib.hid hown
      have HBEL := Lib.hid hbel
      have hMw : M ≤ wr.heap.size := by have := hkc.size; have := HM.out; omega
      clear hown ht hlt hbel
      go_wp2_with (at_builtin; go_loud (refine apps rfl (.tmp 47) (.const (.string ⟨#[13, 10]⟩)) rfl HOWN.out hMw rfl rfl (by have := HLT.out; have z1 : (⟨#[13, 10]⟩ : ByteArray).size = 2 := rfl; omega) ?_); intro o4 w4 ho4 hg4; rw [show natsOf ⟨#[13, 10]⟩ = [13, 10] from rfl, HT.out] at ho4; have HO4 := Lib.hid ho4; have HB4 := Lib.hid (HBEL.out.grown hg4 (by omega) (fun j e => by have := OwnB.ownLe HOWN.out j e; omega)); clear ho4 hg4)
      go_ret
      exact ⟨_, rfl, ownB_base HO4.out (by rw [HN.out]; exact hnM), by rw [HN.out]; exact HB4.out⟩
end
section
set_option linter.unusedVariables false
open Go.RowKit Go.Lib

theorem pick_all (fs : List Fd) : pickF [] true fs = fs := by unfold pickF; exact List.filter_eq_self.2 fun f _ => rfl
theorem pick_none (fs : List Fd) : pickF [] false fs = [] := by unfold pickF; exact List.filter_eq_nil_iff.2 fun f _ => by simp [keepB, amongB]
theorem keep_not (S : List ByteArray) (f : Fd) : keepB S true f = !keepB S false f := by unfold keepB; cases amongB S f.nm <;> rfl
theorem pick_sum (S : List ByteArray) : ∀ fs : List Fd, (pickF S false fs).length + (pickF S true fs).length = fs.length := by
  intro fs
  induction fs with
  | nil => rfl
  | cons f fs ih =>
    unfold pickF at ih ⊢
    cases h : keepB S false f
    · rw [List.filter_cons_of_neg (by rw [h]; exact Bool.false_ne_true), List.filter_cons_of_pos (by rw [keep_not, h]; rfl)]
      simp only [List.length_cons]
      omega
    · rw [List.filter_cons_of_pos h, List.filter_cons_of_neg (by rw [keep_not, h]; exact Bool.false_ne_true)]
      simp only [List.length_cons]
      omega
theorem pick_at (S : List ByteArray) (nt : Bool) (fs : List Fd) (n : Nat) (h : n < fs.length) (hk : keepB S nt fs[n] = true) :
    pickF S nt (fs.take (n + 1)) = pickF S nt (fs.take n) ++ [fs[n]] ∧ ∃ h2 : (pickF S nt (fs.take n)).length < (pickF S nt fs).length, (pickF S nt fs)[(pickF S nt (fs.take n)).length] = fs[n] := by
  have e1 : pickF S nt (fs.take (n + 1)) = pickF S nt (fs.take n) ++ [fs[n]] := by
    unfold pickF
    rw [List.take_succ_eq_append_getElem h, List.filter_append, List.filter_cons_of_pos hk]
    rfl
  have e2 : pickF S nt fs = pickF S nt (fs.take n) ++ (fs[n] :: pickF S nt (fs.drop (n + 1))) := by
    have : fs = fs.take (n + 1) ++ fs.drop (n + 1) := (List.take_append_drop ..).symm
    conv => lhs; rw [this]
    unfold pickF at e1 ⊢
    rw [List.filter_append, e1]
    simp
  refine ⟨e1, ?_⟩
  have h2 : (pickF S nt (fs.take n)).length < (pickF S nt fs).length := by rw [e2]; simp
  refine ⟨h2, ?_⟩
  have : (pickF S nt fs)[(pickF S nt (fs.take n)).length]? = some fs[n] := by rw [e2]; simp
  rw [List.getElem?_eq_getElem h2] at this
  exact Option.some.inj this
theorem pick_skip (S : List ByteArray) (nt : Bool) (fs : List Fd) (n : Nat) (h : n < fs.length) (hk : keepB S nt fs[n] = false) : pickF S nt (fs.take (n + 1)) = pickF S nt (fs.take n) := by
  unfold pickF
  rw [List.take_succ_eq_append_getElem h, List.filter_append, List.filter_cons_of_neg (by rw [hk]; exact Bool.false_ne_true)]
  simp
theorem pick_keep (S : List ByteArray) (nt : Bool) (fs : List Fd) (i : Nat) (h : i < (pickF S nt fs).length) : keepB S nt (pickF S nt fs)[i] = true := (List.mem_filter.1 (List.getElem_mem h)).2
theorem keep_ne {S : List ByteArray} {nt : Bool} {f g : Fd} (h : keepB S nt f = true) (k : keepB S nt g = false) : (f.nm.toList == g.nm.toList) = false := by
  cases e : (f.nm.toList == g.nm.toList)
  · rfl
  · exfalso
    have e1 : f.nm.toList = g.nm.toList := by simpa using e
    have : f.nm = g.nm := by
      rw [Go.ByteArray.toList_eq, Go.ByteArray.toList_eq] at e1
      exact ByteArray.ext (Array.toList_inj.1 e1)
    unfold keepB at h k
    rw [this, k] at h
    cases h
theorem StrsIn.below {w W : World} {v : Value} {S : List ByteArray} (h : StrsIn w v S) (hb : Below w.heap.size w W) : StrsIn W v S := by
  refine ⟨h.1, h.2.1, ?_⟩
  rcases h.2.2 with h2 | ⟨b, off, c, e, h1, h2, h3⟩
  · exact .inl h2
  · exact .inr ⟨b, off, c, e, by have := hb.size; omega, h2, fun i hi => (hb.cell (p := ⟨b, off + i, none⟩) h1).trans (h3 i hi)⟩
/-- a told field's cells, in a later world -/
theorem told_cells {w W : World} {B : Nat} {a : Option Addr} {n c : Nat} {l : List Tk} (h : OwnT w B (.slice a n c) l) (hs : Still w W) (i : Nat) (hi : i < l.length) : ∃ b, a = some ⟨b, 0, none⟩ ∧ W.cell? ⟨b, i * 2, none⟩ = some (.string l[i].1) ∧ W.cell? ⟨b, i * 2 + 1, none⟩ = some (.string l[i].2) := by
  obtain ⟨g, cap, hc⟩ := h.cells
  obtain ⟨e, _, _, h2⟩ := hc (by omega)
  simp only [Value.slice.injEq] at e
  exact ⟨g, e.1, (hs.cell _).trans (h2 i hi).1, (hs.cell _).trans (h2 i hi).2⟩
theorem strsNil (w : World) : StrsIn w (.slice none 0 0) [] := ⟨by simp, by simp, .inl ⟨rfl, _, _, rfl⟩⟩
end
end Go.Proofs.YtnncldnpkfjhbaaGreatDoor
