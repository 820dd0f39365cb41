/-
  WalRound: the walk.
-/
import Derived.Test.YtmkedanlpapndaaRndP
import Derived.Deep.CutBlock
import Derived.Deep.CutRange
import Derived.Deep.DeepCutAuto
namespace Go.Proofs.Ytmkedanlpapndaa
set_option linter.unusedVariables false
open Go.RowKit

/-- z zeros are made -/
theorem make_n {w : World} {ops : Array Oper} {rest : List Oper} {o : Oper} {a : Act} {Q : Exit → Act → World → Prop} (hg : o.guard = none) (l c : Operand) (hop : o.op = Op.makeSlice 34 l c) (z : Nat) (hz : z ≤ 400)
    (hl : a.eval l = .int .i64 (z : Nat)) (hc : a.eval c = .int .i64 (z : Nat))
    (h : ∀ w', OwnB w' w.heap.size (.slice (some ⟨w.heap.size, 0, none⟩) z z) (zeros z) → Below w.heap.size w w' → wpList Try.prog ops Q rest (a.put o.dst (.slice (some ⟨w.heap.size, 0, none⟩) z z)) w') :
    wpList Try.prog ops Q (o :: rest) a w := by
  obtain ⟨i0, hi, hz0, hz1, hz2⟩ := info_parts Try.info5
  refine wpList_make_full _ hg l c 34 hop w.heap.size 5 i0 (.int .u8 0) 1 Try.underlying34 hi hz0 hz1 _ _ _ _ z hl hc rfl rfl (by rw [hz2]; omega) (by unfold maxLen; omega) (Nat.le_refl _) ?_
  intro w' h1 h2
  refine h w' ?_ ((Below.refl _ _).grown h2 (Nat.le_refl _) (by simp))
  have e : (madeCells (Value.int IntKind.u8 0).cells (z * 1)).toList = u8s (zeros z) := by
    apply List.ext_getElem
    · simp [madeCells, u8s, zeros, Value.cells]
    · intro i h1 h2
      simp [madeCells, u8s, zeros, Value.cells, Nat.mod_one]
  have e2 : (zeros z).length = z := by simp [zeros]
  unfold OwnB
  rw [e2, ← e]
  exact h1

theorem last_cell {w : World} {B mm : Nat} {o : Value} {M : List (Value × List Nat)} {L : List (List Nat)} {l : List Nat} (h : Rows2 w B o M) (hm : M.map (·.2) = L ++ [l]) (hl : L.length = mm) :
    ∃ v og oc, o = .slice (some ⟨og, 0, none⟩) (mm + 1) oc ∧ mm + 1 ≤ oc ∧ w.cell? ⟨og, mm, none⟩ = some v ∧ OwnB w B v l := by
  have hml : M.length = mm + 1 := by have h1 := congrArg List.length hm; simp at h1; omega
  have h1 : (M.map (·.2))[mm]? = some l := by rw [hm, ← hl]; simp
  rw [List.getElem?_map, List.getElem?_eq_getElem (by omega), Option.map_some] at h1
  have h2 : (M[mm]'(by omega)).2 = l := by simpa using h1
  have ho := h.own _ (List.getElem_mem (show mm < M.length by omega))
  rw [h2] at ho
  rcases h.row.2 with ⟨e, h3⟩ | ⟨g, cap, cur, e, hb, hh, hc, hmx, hs, ht⟩
  · omega
  · refine ⟨(M[mm]'(by omega)).1, g, cap, by rw [e, hml], by omega, ?_, ho⟩
    rw [cell_of_row _ _ _ _ 34 (0, 0) hh]
    have h3 : (M.map (·.1))[mm]? = some (M[mm]'(by omega)).1 := by rw [List.getElem?_map, List.getElem?_eq_getElem (by omega)]; rfl
    rw [← ht, List.getElem?_take_of_lt (by omega)] at h3
    simpa using h3
theorem row8_rowK {w : World} {B g n : Nat} {l : List Nat} (h : Row8 w g l) (hl : l.length = n) (hn : n ≤ 1000) (h256 : ∀ m ∈ l, m < 256) : RowK B w (.slice (some ⟨g, 0, none⟩) n n) l := by
  refine ⟨⟨_, _, _, rfl, hl, Nat.le_refl _, by unfold maxLen; omega, h256, by simp, fun x hx i hi => ?_⟩, fun a l2 c2 e => .inr ?_⟩
  · obtain rfl := Option.some.inj hx
    rw [Addr.add_lit, Nat.zero_add]
    exact h.cell i hi
  · obtain ⟨⟨rfl, -⟩, -⟩ : ((⟨g, 0, none⟩ : Addr) = a ∧ True) ∧ True := by simpa using (Value.slice.inj e).1
    exact ⟨_, _, _, h, by decide, by decide, by decide, by decide, by decide⟩
set_option maxRecDepth 100000 in
set_option maxHeartbeats 8000000 in
theorem round_walk (w : World) (v : Value) (K : List Int) (hk : IntB w v K) (keep : Int) : Calls Try.prog 5 #[v, .int .i64 keep] w fun e w' => e = .returned (.bool true) ∧ Below w.heap.size w w' := by
  obtain ⟨va, vc, rfl, hkl⟩ := hk.shape
  have HK := Lib.hid hk
  have HA := Lib.hid (fun W => awake_any W)
  obtain ⟨kp, hkp, hk1, hk5⟩ : ∃ kp : Nat, 1 + (IntKind.u64.wrap keep).tmod 5 = (kp : Int) ∧ 1 ≤ kp ∧ kp ≤ 5 := by
    have h0 : 0 ≤ IntKind.u64.wrap keep := by rw [IntKind.wrap_u64]; exact Int.emod_nonneg _ (by decide)
    generalize IntKind.u64.wrap keep = y at *
    rw [Int.tmod_eq_emod_of_nonneg h0]
    exact ⟨(1 + y % 5).toNat, by omega, by omega, by omega⟩
  clear hk
  go_enter Try.func5, Try.ntmps5
  go_wp2_with fail
  refine (new_held 200 w (by decide) (by decide)).mono ?_
  rintro e w1 ⟨pd, kv, rfl, hd1⟩
  have HD1 := Lib.hid hd1
  clear hd1
  go_wp2_with fail
  refine (open_fresh HD1.out (by decide) (by decide)).mono ?_
  rintro e w2 ⟨pl, rfl, hl2, -, hb2⟩
  have HL2 := Lib.hid hl2
  clear hl2 hb2
  go_wp2_with fail
  refine (HA.out _).mono ?_
  rintro e w3 ⟨rfl, hb3⟩
  have HL3 := Lib.hid (HL2.out.below hb3)
  clear HL2 hb3
  go_wp2_with fail
  clear hkp
  have hR0 : RInv kp 0 (frS (200 - 2) 1) (List.replicate 200 (zeros 64)) [] := ⟨Fit.fresh 200 (by decide) (by decide), rfl, by simp [frS], by simp [frS], by decide, by decide, by simp [frS, sumC], fun x hx => by simp [frS] at hx, by decide⟩
  go_loopw [10, 9] (fun i nn wr => ∃ n s S W, n ≤ 120 ∧ n ≤ K.length ∧ i = .int .i64 (n : Nat) ∧ nn = .int .u64 (n : Nat) ∧ Lg w.heap.size w wr pl pd kv s S W ∧ RInv kp n s S W) (fun i _ _ => 121 - (RowKit.intOf i).toNat)
  case atStart => exact ⟨0, _, _, _, by decide, Nat.zero_le _, rfl, rfl, HL3.out, hR0⟩
  case round =>
    obtain ⟨n, s, S, W, hn, hnk, rfl, rfl, hlg, hri⟩ := hrel
    have HLG := Lib.hid hlg
    have HRI := Lib.hid hri
    clear hR0
    by_cases hgo : n < K.length ∧ n < 120
    · obtain ⟨g1, g2⟩ := hgo
      have g1z : (n : Int) < (K.length : Int) := by omega
      have g2z : (n : Int) < 120 := by omega
      have hbw := hlg.disk.below
      obtain ⟨kb, ko, rfl, hcell⟩ : ∃ kb ko, va = some ⟨kb, ko, none⟩ ∧ wr.cell? ⟨kb, ko + n, none⟩ = some (.int .i64 K[n]) := by
        rcases HK.out with ⟨_, e⟩ | ⟨b, off, cap, e, h1, h2, h3⟩
        · rw [e] at g1; simp at g1
        · simp only [Value.slice.injEq] at e
          refine ⟨b, off, e.1, ?_⟩
          have h4 := h3 n g1
          rw [hbw.cell (World.block_lt_of_cell? w _ h4)]
          exact h4
      obtain ⟨x, hx⟩ : ∃ x, K[n] = x := ⟨_, rfl⟩
      rw [hx] at hcell
      obtain ⟨z, hz, hz4⟩ : ∃ z : Nat, (IntKind.u64.wrap x).tmod 400 = (z : Int) ∧ z < 400 := by
        have h0 : 0 ≤ IntKind.u64.wrap x := by rw [IntKind.wrap_u64]; exact Int.emod_nonneg _ (by decide)
        generalize IntKind.u64.wrap x = y at *
        rw [Int.tmod_eq_emod_of_nonneg h0]
        exact ⟨(y % 400).toNat, by omega, by omega⟩
      have hz5 : (z : Int) < 400 := by omega
      have G12 := Lib.hid (And.intro g1 g2)
      clear hx hlg hri hbw hn hnk
      go_wp2_with (at_make; refine make_n rfl _ _ rfl z (by omega) rfl rfl ?_)
      intro w4 ho hb4
      have hn120 : (n : Int) < 120 := g2z
      obtain ⟨g, hg⟩ : ∃ g, wr.heap.size = g := ⟨_, rfl⟩
      rw [hg]
      rw [hg] at ho hb4
      have HR4 := Lib.hid (row8_of_own ho (by simp [zeros]))
      have HB4 := Lib.hid hb4
      have HGE : Hid (wr.heap.size = g) := Lib.hid hg
      have HGB : Hid (w.heap.size ≤ g) := Lib.hid (by rw [← hg]; exact HLG.out.disk.below.size)
      have hpg : Hid (g < w4.heap.size) := Lib.hid HR4.out.lt
      clear ho hb4 hcell hg
      go_wp2_with fail
      go_loopw [58] (fun i wr => ∃ k l, k ≤ z ∧ i = .int .i64 (k : Nat) ∧ Row8 wr g l ∧ l.length = z ∧ (∀ m ∈ l, m < 256) ∧ Beside (fun k => k = g) w4 wr) (fun i _ => z - (RowKit.intOf i).toNat)
      case atStart => exact ⟨0, zeros z, Nat.zero_le _, rfl, HR4.out, by simp [zeros], (by intro m hm; have := List.eq_of_mem_replicate hm; omega), Beside.refl _ _⟩
      case round =>
        obtain ⟨k, l, hk, rfl, hrow, hll, hlt, hbs⟩ := hrel
        have HRO := Lib.hid hrow
        have HLL := Lib.hid hll
        have HLT := Lib.hid hlt
        have HBS := Lib.hid hbs
        by_cases hkz : k < z
        · have hkz2 : (k : Int) < (z : Int) := by omega
          obtain ⟨u0, hc0⟩ : ∃ u, wr.cell? ⟨g, k, none⟩ = some u := ⟨_, hrow.cell k (by omega)⟩
          have hf0 := hrow.free k
          have HST := Lib.hid (hrow.set k ((n + k) % 256))
          have HBT := Lib.hid (hbs.setCell (p := ⟨g, k, none⟩) (.inl rfl) (.int .u8 ((n + k) % 256 : Nat)))
          have e256 : (((n + k) % 256 : Nat) : Int) = ((n : Int) + (k : Int)) % 256 := by omega
          rw [e256] at HST HBT
          clear e256 hrow hll hlt hbs
          go_wp2_with fail
          go_roundw
          case rel => exact ⟨k + 1, l.set k ((n + k) % 256), by omega, by go_num, HST.out, by rw [List.length_set]; exact HLL.out, (fun m hm => by rcases List.mem_or_eq_of_mem_set hm with h | h; exact HLT.out m h; omega), HBT.out⟩
          case measure => simp [intOf]; omega
        · obtain rfl : k = z := by omega
          have hq : QB g _ wr := (Below.qb HB4.out).trans (HBS.out.qb (fun j hj => by rw [hj]; exact Nat.le_refl _))
          have hdw : Held w.heap.size w wr pd kv S W 0 false := by
            have h1 := HLG.out.disk.below' (by rw [HGE.out]; exact HB4.out)
            exact h1.beside2 HBS.out (fun j hj => by subst hj; exact ⟨_, _, _, HR4.out, by decide, by decide, by decide⟩) (fun j hj => by subst hj; exact HGB.out)
          have HLW := Lib.hid (HLG.out.qb hdw (by rw [HGE.out]; exact hq))
          have HRK : Hid (RowK w.heap.size wr (.slice (some ⟨g, 0, none⟩) k k) l) := Lib.hid (row8_rowK hrow hll (by omega) hlt)
          have hl400 : l.length ≤ 400 := by omega
          have HAP := Lib.hid (append_any HLW.out HRI.out.fit HRK.out (Nat.le_trans hl400 (by decide)) (HRI.out.room hk5 hl400))
          have HMID := Lib.hid (HRI.out.app hk5 (by have := G12.out.2; exact this) hl400 hlt)
          have HLT := Lib.hid hlt
          clear hq hdw hrow hll hlt hbs HRO HLL HBS
          go_wp2_with fail
          refine HAP.out.mono ?_
          rintro e w5 ⟨rfl, hl5, hq5⟩
          have HL5 := Lib.hid hl5
          have HRK5 := Lib.hid (HRK.out.lq (fun j hj => (hl5.disk.below.block j hj).trans (HLW.out.disk.below.block j hj).symm) hq5)
          clear hl5 hq5 HAP
          generalize hs5 : appS s l = s5 at *
          generalize hW5 : appW s l S W (cellsN l.length) = W5 at *
          clear hs5 hW5 HLW HRI HRK
          go_upto_region 19 with (fail)
          go_cut [88] (fun u wx => u = .bool false ∧ ∃ s6 S6 W6, Lg w.heap.size w wx pl pd kv s6 S6 W6 ∧ RInv kp (n + 1) s6 S6 W6 ∧ (∃ pre y, s6.ents = pre ++ [y] ∧ y.data = l) ∧ RowK w.heap.size wx (.slice (some ⟨g, 0, none⟩) k k) l)
          case first =>
            by_cases hc : n + 1 ≤ kp
            · have hcz : ¬ (kp : Int) < (n : Int) + 1 := by omega
              go_wp2_with fail
              go_meet
              exact ⟨rfl, _, _, _, HL5.out, HMID.out.few hc, HMID.out.last, HRK5.out⟩
            · have hcz : (kp : Int) < (n : Int) + 1 := by omega
              obtain ⟨q, hq⟩ : ∃ q, n + 1 - kp = q := ⟨_, rfl⟩
              have hqz : (n : Int) + 1 - (kp : Int) = (q : Int) := by omega
              have hl := HMID.out.len
              have hf := HMID.out.first
              have hq1 : q - s5.first = 1 := by omega
              obtain ⟨y, hy⟩ : ∃ y, s5.ents[q - s5.first]? = some y := ⟨s5.ents[1]'(by omega), by rw [hq1]; exact List.getElem?_eq_getElem (by omega)⟩
              have HCU := Lib.hid (cut_any HL5.out HMID.out.fit q (by omega) y hy (fun x hx => ⟨(HMID.out.ents x hx).2.1, (HMID.out.ents x hx).2.2.1, by have := (HMID.out.ents x hx).1; omega⟩) (by
                rw [HMID.out.used]
                have h2 := sumC_take_le s5.ents (q - s5.first) s5.ents.length (by omega)
                rwa [List.take_length] at h2))
              have HCI := Lib.hid (HMID.out.cut hk1 (by omega) (by have := G12.out.2; exact this) (x := y) (by rw [hq]; exact hy))
              rw [hq] at HCI
              clear hq hl hf hq1 hy
              go_wp2_with (go_at_call 26; refine HCU.out.mono ?_; rintro e w6 ⟨rfl, hl6, hq6⟩; have HL6 := Lib.hid hl6; have HQ6 := Lib.hid hq6; clear hl6 hq6)
              go_meet
              exact ⟨rfl, _, _, _, HL6.out, HCI.out.1, HCI.out.2, HRK5.out.lq (fun j hj => (HL6.out.disk.below.block j hj).trans (HL5.out.disk.below.block j hj).symm) HQ6.out⟩
          case rest =>
            obtain ⟨rfl, s6, S6, W6, hl6, hri6, ⟨pre, y, hpe, hyd⟩, hrk6⟩ := hcut
            have HL6 := Lib.hid hl6
            have HRI6 := Lib.hid hri6
            have HRK6 := Lib.hid hrk6
            have HRC := Lib.hid (hl6.records hri6.fit.ents (fun x hx => (hri6.ents x hx).2.2.2))
            obtain ⟨mm, hmm⟩ : ∃ mm, s6.ents.length = mm + 1 := ⟨pre.length, by rw [hpe]; simp⟩
            have hmin : min ((n : Int) + 1) (kp : Int) = ((mm + 1 : Nat) : Int) := by have := hri6.len; omega
            have hfst := hri6.first
            have HPE := Lib.hid (And.intro hpe hyd)
            have HMM := Lib.hid hmm
            clear hl6 hri6 hrk6 hpe hyd hmm HL5 HRK5 HMID
            go_wp2_with fail
            refine HRC.out.mono ?_
            rintro e w7 ⟨o, M, rfl, hm, hmd, hb7⟩
            have hmd2 : M.map (·.2) = pre.map (·.data) ++ [l] := by rw [hmd, HPE.out.1, List.map_append, ← HPE.out.2]; rfl
            obtain ⟨v, og, oc, rfl, hoc, hcell, hov⟩ := last_cell hm hmd2 (mm := mm) (by have h2 := HMM.out; rw [HPE.out.1] at h2; simpa using h2)
            obtain ⟨ua, uc, hve⟩ := hov.shape
            subst hve
            have hl7 := HL6.out.below hb7
            have HL7 := Lib.hid hl7
            have hnx := hl7.nexts HRI6.out.fit
            rw [hfst] at hnx
            have HNX := Lib.hid hnx
            have HBY := Lib.hid (bytes_any (w := w7.drew) ((hov.rowB HLT.out).below (Below.refl _ _).drew) ((HRK6.out.1.below hb7).below (Below.refl _ _).drew))
            have hmz : ((mm + 1 : Nat) : Int) - 1 = (mm : Int) := by omega
            have hmz2 : (mm : Int) + 1 - 1 = (mm : Int) := by omega
            have hmc : (mm : Int) + 1 ≤ (oc : Int) := by omega
            have hmm5 : (mm : Int) + 1 ≤ 9223372036854775807 := by omega
            clear hm hmd hmd2 hb7 hov hl7 hnx hfst
            go_wp2_with fail
            refine HNX.out.mono ?_
            rintro e w8 ⟨rfl, rfl⟩
            go_wp2_with fail
            refine HBY.out.mono ?_
            rintro e w9 ⟨rfl, rfl⟩
            go_wp2_with fail
            go_roundw
            case rel => exact ⟨n + 1, s6, S6, W6, G12.out.2, G12.out.1, by go_num, by go_num, HL7.out.drew, HRI6.out⟩
            case measure => simp [intOf]; omega
    · have HBE := Lib.hid hlg.disk.below
      clear hlg hri
      by_cases h1 : n < K.length
      · have h1z : (n : Int) < (K.length : Int) := by omega
        have h2z : ¬ (n : Int) < 120 := by omega
        go_wp2_with fail
        go_ret
        exact ⟨rfl, HBE.out⟩
      · have h1z : ¬ (n : Int) < (K.length : Int) := by omega
        go_wp2_with fail
        go_ret
        exact ⟨rfl, HBE.out⟩
end Go.Proofs.Ytmkedanlpapndaa
