/-
  (*strings.byteStringReplacer).Replace at the four texts: the walk.
-/
import Derived.Test.YtghibofnfjnfcaaGreatDoorRepF
import Derived.Deep.RegionLaw
import Derived.Deep.CutBlock
import Derived.Deep.CutRange
import Derived.Deep.DeepCutAuto
namespace Go.Proofs.YtghibofnfjnfcaaGreatDoor
set_option linter.unusedVariables false
open Go.RowKit

theorem Built.esc {S : Nat} {w : World} {B : Nat} (h : Built S w B) {c : Nat} (hc : c = 34 ∨ c = 92) : ∃ g cg, w.cell? ⟨B, c, none⟩ = some (.slice (some ⟨g, 0, none⟩) 2 cg) ∧ CellB w g [92, c] := by
  obtain ⟨q, cq, s, cs, t, ct, h1, h2, h3, h4, h5, -⟩ := h
  rcases hc with rfl | rfl
  · exact ⟨q, cq, h1.q, h2⟩
  · exact ⟨s, cs, h1.s, h3⟩
theorem Built.plain {S : Nat} {w : World} {B : Nat} (h : Built S w B) {c : Nat} (h2 : c < 256) (hc : ¬ (c = 34 ∨ c = 92)) : w.cell? ⟨B, c, none⟩ = some (.slice none 0 0) := by
  obtain ⟨q, cq, s, cs, t, ct, h1, -⟩ := h
  exact h1.no c h2 (fun e => hc (.inl e)) (fun e => hc (.inr e))
theorem Built.below {S : Nat} {w w' : World} {B : Nat} (h : Built S w B) (hb : Below w.heap.size w w') : Built S w' B := h.keep fun k _ hk => hb.block k hk
/-- two bytes are copied into the buffer, in a drawn region -/
theorem step_copy2 {ops : Array Oper} {o : Oper} {a : Act} {w : World} {K : Act → World → Prop} {Q : Exit → Act → World → Prop} {E : Prop} (hg : o.guard = none) (x y : Operand) (ho : o.op = .call { callee := .builtin .copy, args := #[x, y], argTypes := #[27, 27] }) {b N q dc sc n m : Nat} {F d : List Nat} (hx : a.eval x = .slice (some ⟨b, m, none⟩) n dc) (hm : m = F.length)
    (hd : d.length = 2) (hn : 2 ≤ n) (hy : a.eval y = .slice (some ⟨q, 0, none⟩) 2 sc) (hsrc : CellB w q d) (hb : BufR w b F N) (hfit : F.length + 2 ≤ N)
    (hK : ∀ w', BufR w' b (F ++ d) N → Below b w w' → K (a.put o.dst (.int .i64 2)) w') : if Region.wanted o (yielded ops a.tmps) = true then Oper.wp Tryz.prog o a w K Q else E := by
  subst hm
  have hw : Region.wanted o (yielded ops a.tmps) = true := by simp [Region.wanted, hg]
  rw [if_pos hw]
  obtain ⟨i0, hi, hz0, hz1, hz2⟩ := info_parts Tryz.info5
  have hlen : (u8s d).length = 2 := by simp [hd]
  have hrun := run_copy_row (P := Tryz.prog) w 27 27 o.type 5 b F.length n dc ⟨q, 0, none⟩ 2 sc _ 5 (u8s d) Tryz.underlying27 (by rw [hi]; simp [hz1]) hb.2 (by rw [hlen]; simp [Nat.min_def]; omega) (fun j v hj => by
    rw [Addr.add_lit, Nat.zero_add]
    have hjl : j < d.length := by have := (List.getElem?_eq_some_iff.1 hj).1; simpa using this
    rw [u8s_get _ _ hjl] at hj
    rw [hsrc j hjl]
    exact hj) (by rw [hlen]; simp [zs8_len]; omega) (by intro v hv; obtain ⟨m, -, rfl⟩ := List.mem_map.1 hv; rfl)
  have hp := hb.put d (by omega)
  rw [u8s_length] at hrun
  have hbl := below_setRow (Below.refl b w) (Nat.le_refl b) ((u8s F ++ zs8 (N - F.length)).toArray.toList.take F.length ++ u8s d ++ (u8s F ++ zs8 (N - F.length)).toArray.toList.drop (F.length + d.length)).toArray
  have hk := hK _ hp hbl
  clear hp hbl hK hb
  have hgo : goInt d.length = .int .i64 2 := by rw [hd]; rfl
  rw [hgo] at hrun
  generalize (List.take F.length (u8s F ++ zs8 (N - F.length)).toArray.toList ++ u8s d ++ List.drop (F.length + d.length) (u8s F ++ zs8 (N - F.length)).toArray.toList).toArray = X at hk hrun
  unfold Oper.wp
  simp [execOp, ho, resolve, invoke, builtin, hx, hy, hrun, Result.andThen, Oper.upon_value]
  exact hk

theorem escL_take_le (T : List Nat) (j : Nat) : (escL (T.take j)).length ≤ (escL T).length := by
  have h : escL T = escL (T.take j) ++ escL (T.drop j) := by
    conv => lhs; rw [← List.take_append_drop j T]
    exact List.flatMap_append
  rw [h, List.length_append]
  omega
theorem buf_str {w : World} {b N : Nat} {E : List Nat} (h : BufR w b E N) (hn : E.length = N) (hE : ∀ c ∈ E, c < 256) : (convert 27 9 (.slice (some ⟨b, 0, none⟩) N N)).run Tryz.prog w = .ok (.string (strN E)) w := by
  have := run_convert_bytes_back (P := Tryz.prog) w 27 9 5 ⟨b, 0, none⟩ N (E.map UInt8.ofNat) Tryz.underlying27 Tryz.underlying5 Tryz.underlying9 (fun j hj => by
    have hj' : j < E.length := by simpa using hj
    rw [Addr.add_lit, Nat.zero_add, h.cells hn j hj']
    have := hE _ (List.getElem_mem hj')
    simp only [List.getElem_map, UInt8.toNat_ofNat']
    congr 2
    omega)
  rw [List.length_map, hn] at this
  exact this
theorem strN_lit (c : Nat) (h : c = 34 ∨ c = 92) : (⟨#[UInt8.ofNat c]⟩ : ByteArray) = strN [c] := rfl
theorem take_snoc {T : List Nat} {k : Nat} (h : k < T.length) : T.take (k + 1) = T.take k ++ [T[k]] := by rw [List.take_add_one, List.getElem?_eq_getElem h]; rfl
theorem Built.still {S : Nat} {w w' : World} {B : Nat} (h : Built S w B) (hs : Still w w') : Built S w' B := h.keep fun k _ _ => by rw [hs.2]

set_option maxRecDepth 100000 in
set_option maxHeartbeats 8000000 in
theorem repl_any (S B : Nat) (T : List Nat) (hT : ∀ c ∈ T, c < 256) (hn : T.length ≤ 1100000) (w : World) (h : Built S w B) :
    Calls Tryz.prog 141 #[.pointer (some ⟨B, 0, none⟩), .string (strN T)] w fun e w' => e = .returned (.string (strN (escL T))) ∧ Below w.heap.size w w' := by
  obtain ⟨s, hS⟩ : ∃ s, s = strN T := ⟨_, rfl⟩
  obtain ⟨n, hN⟩ : ∃ n, n = T.length := ⟨_, rfl⟩
  have hsz : s.size = n := by subst hS hN; exact strN_size T
  have HAT : Hid (∀ (k : Nat) (h : k < s.size) (h2 : k < T.length), s[k].toNat = T[k]) := Lib.hid (by subst hS; exact fun k h h2 => strN_at hT k h)
  have HCT : Hid (∀ k < 256, Lib.countByte s.data.toList (UInt8.ofNat k) = T.count k) := Lib.hid (by subst hS; exact fun k hk => count_str hT k hk)
  have HC34 := Lib.hid ((HCT.out 34 (by decide)))
  have HC92 := Lib.hid ((HCT.out 92 (by decide)))
  have HTL := Lib.hid hT
  have HNN := Lib.hid hN
  have HH := Lib.hid h
  have HSS := Lib.hid hS
  have hce : cntE T ≤ n := by rw [hN]; exact cntE_le T
  have htwo := cntE_two T
  have HTWO := Lib.hid htwo
  have hBl : B < w.heap.size := by obtain ⟨q, cq, s, cs, t, ct, h1, -⟩ := h; exact h1.lt
  have htlt : ∀ t, w.cell? ⟨t, 0, none⟩ ≠ none → t < w.heap.size := fun t ht => by
    obtain ⟨v, hv⟩ := Option.ne_none_iff_exists'.1 ht
    exact World.block_lt_of_cell? w _ hv
  have hn1 : n ≤ 1100000 := by omega
  rw [← hS]
  clear hS h hT hn hN htlt htwo
  go_enter Tryz.func141, Tryz.ntmps141
  obtain ⟨q, cq, s2, cs, t, ct, hbs, hcq, hcs, ht0, ht1, -⟩ := HH.out
  have x34 := hbs.q
  have x92 := hbs.s
  have x256 := hbs.t
  have HBS := Lib.hid hbs
  have e34 : (⟨#[34]⟩ : ByteArray)[0].toNat = 34 := rfl
  have e92 : (⟨#[92]⟩ : ByteArray)[0].toNat = 92 := rfl
  clear hbs hcq hcs
  have hca : ∀ w, Calls Tryz.prog 143 #[.string s, .string ⟨#[34]⟩] w fun e w' => e = .returned (.int .i64 (T.count 34 : Nat)) ∧ w' = w := fun w => by
    have := Tryz.strings_Count_one s 34 w
    rw [show Lib.countByte s.data.toList 34 = T.count 34 from HC34.out] at this
    exact this
  have hcb : ∀ w, Calls Tryz.prog 143 #[.string s, .string ⟨#[92]⟩] w fun e w' => e = .returned (.int .i64 (T.count 92 : Nat)) ∧ w' = w := fun w => by
    have := Tryz.strings_Count_one s 92 w
    rw [show Lib.countByte s.data.toList 92 = T.count 92 from HC92.out] at this
    exact this
  have HCA := Lib.hid hca
  have HCB := Lib.hid hcb
  clear hca hcb HC34 HC92 HCT
  go_upto_if 26 with (fail)
  go_cut [5, 6] (fun v b wx => v = .int .i64 ((n + cntE T : Nat) : Int) ∧ b = .bool (decide (cntE T ≠ 0)) ∧ Still w wx)
  case first =>
    have HT0 := Lib.hid ht0
    have HT1 := Lib.hid ht1
    have HX34 := Lib.hid x34
    have HX92 := Lib.hid x92
    have HX256 := Lib.hid x256
    have he := HTWO.out
    generalize T.count 34 = a1 at *
    generalize T.count 92 = a2 at *
    have HE := Lib.hid he
    clear he
    by_cases h16 : 16 ≤ n
    · have h16z : decide ((16 : Int) ≤ (n : Int)) = true := by simp; omega
      rw [h16z]
      clear h16z h16
      go_wp2_with fail
      clear ht0 ht1 x34 x92 x256
      go_loopw [5, 6, 32] (fun v b i wr => ∃ k, k ≤ 2 ∧ i = .int .i64 (k : Nat) ∧ (∃ (m : Nat) (bb : Bool), v = .int .i64 (m : Nat) ∧ m = n + (if 1 ≤ k then a1 else 0) + (if 2 ≤ k then a2 else 0) ∧ b = .bool bb ∧ bb = decide (m ≠ n)) ∧ Still w wr) (fun _ _ i _ => 2 - (intOf i).toNat)
      case atStart => exact ⟨0, by omega, rfl, ⟨n, false, rfl, by simp, rfl, by simp⟩, Still.refl w⟩
      case round =>
        obtain ⟨k, hk, rfl, ⟨m, bb, rfl, hm, rfl, hbb⟩, hst⟩ := hrel
        have HBB := Lib.hid hbb
        clear hbb
        have HM := Lib.hid hm
        have HST := Lib.hid hst
        have hmn : m ≤ n + cntE T := by have := HE.out; rw [hm]; split <;> split <;> omega
        have ha1 : a1 ≤ 1100000 := by have := HE.out; omega
        have ha2 : a2 ≤ 1100000 := by have := HE.out; omega
        clear hm hst
        obtain rfl | rfl | rfl : k = 0 ∨ k = 1 ∨ k = 2 := by omega
        · have hm0 : m = n := by have := HM.out; simpa using this
          subst hm0
          have ht0 := (HST.out.cell _).trans HT0.out
          have x34 := (HST.out.cell _).trans HX34.out
          by_cases ha : a1 = 0
          · have HA := Lib.hid ha
            have haz : ((a1 : Int) != 0) = false := by simp [ha]
            clear ha
            go_wp2_with (go_at_call 143; refine (HCA.out _).mono ?_; rintro e w2 ⟨rfl, rfl⟩)
            go_roundw
            case rel => exact ⟨1, by omega, rfl, ⟨m, bb, rfl, by have := HA.out; simp; omega, rfl, HBB.out⟩, HST.out⟩
            case measure => simp [intOf]
          · have HA := Lib.hid ha
            have haz : ((a1 : Int) != 0) = true := by simp [ha]
            clear ha
            go_wp2_with (first | (go_at_call 143; refine (HCA.out _).mono ?_; rintro e w2 ⟨rfl, rfl⟩) | go_region)
            go_roundw
            case rel => exact ⟨1, by omega, rfl, ⟨m + a1, true, by go_num, by simp, rfl, by have := HA.out; simp; omega⟩, HST.out.drew⟩
            case measure => simp [intOf]
        · have hm0 : m = n + a1 := by have := HM.out; simpa using this
          have HM0 := Lib.hid hm0
          have hnm : n ≤ m := by omega
          have ht1 := (HST.out.cell _).trans HT1.out
          have x92 := (HST.out.cell _).trans HX92.out
          have hma : m + a2 ≤ 2200000 := by have := HE.out; omega
          clear hm0
          by_cases ha : a2 = 0
          · have HA := Lib.hid ha
            have haz : ((a2 : Int) != 0) = false := by simp [ha]
            clear ha
            go_wp2_with (go_at_call 143; refine (HCB.out _).mono ?_; rintro e w2 ⟨rfl, rfl⟩)
            go_roundw
            case rel => exact ⟨2, by omega, rfl, ⟨m, bb, rfl, by have := HA.out; have := HM0.out; simp; omega, rfl, HBB.out⟩, HST.out⟩
            case measure => simp [intOf]
          · have HA := Lib.hid ha
            have haz : ((a2 : Int) != 0) = true := by simp [ha]
            clear ha
            go_wp2_with (first | (go_at_call 143; refine (HCB.out _).mono ?_; rintro e w2 ⟨rfl, rfl⟩) | go_region)
            go_roundw
            case rel => exact ⟨2, by omega, rfl, ⟨m + a2, true, by go_num, by have := HM0.out; simp; omega, rfl, by have := HA.out; simp; omega⟩, HST.out.drew⟩
            case measure => simp [intOf]
        · have hm0 : m = n + cntE T := by have := HM.out; rw [if_pos (by decide), if_pos (by decide)] at this; have := HE.out; omega
          have HM0 := Lib.hid hm0
          clear hm0
          go_wp2_with fail
          go_meet
          case rel =>
            have := HM0.out
            exact ⟨by rw [this], by rw [HBB.out]; congr 1; simp; omega, HST.out⟩
    · have h16z : decide ((16 : Int) ≤ (n : Int)) = false := by simp; omega
      rw [h16z]
      clear h16z h16
      go_wp2_with fail
      clear ht0 ht1 x34 x92 x256
      have hnil := fun W a l c => run_neq_slice_nil (P := Tryz.prog) W 27 5 a l c Tryz.underlying27
      go_loopw [5, 6, 10] (fun v b i wr => ∃ k, k ≤ n ∧ i = .int .i64 (k : Nat) ∧ (∃ (m : Nat) (bb : Bool), v = .int .i64 (m : Nat) ∧ m = n + cntE (T.take k) ∧ b = .bool bb ∧ bb = decide (m ≠ n)) ∧ wr = w) (fun _ _ i _ => n - (intOf i).toNat)
      case atStart => exact ⟨0, by omega, rfl, ⟨n, false, rfl, by simp [cntE], rfl, by simp⟩, rfl⟩
      case round =>
        obtain ⟨k, hk, rfl, ⟨m, bb, rfl, hm, rfl, hbb⟩, rfl⟩ := hrel
        have HBB := Lib.hid hbb
        clear hbb
        have hmn : m ≤ n + n := by
          have := cntE_le (T.take k)
          have h2 := HNN.out
          rw [List.length_take] at this
          omega
        have hnm : n ≤ m := by omega
        have HM := Lib.hid hm
        clear hm
        by_cases hkn : k < n
        · have hkz : (k : Int) < (n : Int) := by omega
          have hks : k < s.size := by omega
          have hkT : k < T.length := by have := HNN.out; omega
          obtain ⟨c, hc⟩ : ∃ c, s[k].toNat = c := ⟨_, rfl⟩
          have hTk : T[k] = c := by rw [← hc]; exact (HAT.out k hks hkT).symm
          have hc2 : c < 256 := by rw [← hTk]; exact HTL.out _ (List.getElem_mem hkT)
          have hcz : (c : Int) < 256 := by omega
          have HTK : Hid (T.take (k + 1) = T.take k ++ [c]) := Lib.hid (by rw [take_snoc hkT, hTk])
          clear hTk
          by_cases h2 : c = 34 ∨ c = 92
          · obtain ⟨g, cg, hg, -⟩ := HH.out.esc h2
            have H2 := Lib.hid h2
            clear h2
            go_wp2_with fail
            go_roundw
            case rel => exact ⟨k + 1, by omega, by go_num, ⟨m + 1, true, by go_num, by rw [HTK.out, cntE_snoc, if_pos H2.out]; have := HM.out; omega, rfl, by simp; omega⟩, trivial⟩
            case measure => simp [intOf]; omega
          · have hg := HH.out.plain hc2 h2
            have H2 := Lib.hid h2
            clear h2
            go_wp2_with fail
            go_roundw
            case rel => exact ⟨k + 1, by omega, by go_num, ⟨m, bb, rfl, by rw [HTK.out, cntE_snoc, if_neg H2.out]; have := HM.out; omega, rfl, HBB.out⟩, trivial⟩
            case measure => simp [intOf]; omega
        · obtain rfl : k = n := by omega
          have hm0 : m = k + cntE T := by
            have := HM.out
            rwa [List.take_of_length_le (by have := HNN.out; omega)] at this
          have HM0 := Lib.hid hm0
          clear hm0
          go_wp2_with fail
          go_meet
          case rel =>
            have := HM0.out
            exact ⟨by rw [this], by rw [HBB.out]; congr 1; simp; omega, Still.refl _⟩
  case rest =>
    obtain ⟨rfl, rfl, hst⟩ := hcut
    have HST := Lib.hid hst
    have HBT := Lib.hid (HH.out.still hst)
    have hBc : B < wc.heap.size := by rw [hst.2]; exact hBl
    clear hst ht0 ht1 x34 x92 x256 HBS
    by_cases hz : cntE T = 0
    · have HZ := Lib.hid hz
      have hzb : decide (cntE T ≠ 0) = false := by simp [hz]
      clear hz
      rw [hzb]
      go_wp2_with fail
      go_ret
      exact ⟨by rw [escL_none HZ.out, ← HSS.out]; rfl, HST.out.1⟩
    · have HZ := Lib.hid hz
      have hzb : decide (cntE T ≠ 0) = true := by simp [hz]
      clear hz
      rw [hzb]
      obtain ⟨N, hN⟩ : ∃ N, N = n + cntE T := ⟨_, rfl⟩
      have HN := Lib.hid hN
      rw [← hN]
      have hN1 : N ≤ 2200000 := by omega
      have hnN : n ≤ N := by omega
      clear hN
      obtain ⟨i0, hi, hz0, hz1, hz2⟩ := info_parts Tryz.info5
      have HI := Lib.hid hi
      clear hi
      go_wp2_with (at_make
                   refine wpList_make_full _ rfl _ _ 27 rfl wc.heap.size 5 i0 (.int .u8 0) 1 Tryz.underlying27 HI.out hz0 hz1 .i64 .i64 (N : Int) (N : Int) N rfl rfl rfl rfl (by rw [hz2]; omega) (by simp [maxLen]; omega) (Nat.le_refl _) ?_
                   intro w1 ho1 hg1
                   have HB1 := Lib.hid (BufR.new ho1)
                   have HG1 : Hid (Below w.heap.size w w1) := Lib.hid (HST.out.1.trans (((Below.refl _ _).grown hg1 (Nat.le_refl _) (by simp)).mono HST.out.1.size))
                   have hlt1 := (BufR.new ho1).lt
                   clear ho1 hg1)
      have hwb : w.heap.size ≤ wc.heap.size := HST.out.1.size
      have HEL : Hid ((escL T).length = N) := Lib.hid (by rw [escL_len, HN.out, HNN.out])
      clear HST HBT HN HZ
      generalize wc.heap.size = b at *
      have hnil := fun W a l c => run_neq_slice_nil (P := Tryz.prog) W 27 5 a l c Tryz.underlying27
      go_loopw [13, 14] (fun wi i wr => ∃ k, k ≤ n ∧ i = .int .i64 (k : Nat) ∧ (∃ m : Nat, wi = .int .i64 (m : Nat) ∧ m = (escL (T.take k)).length) ∧ BufR wr b (escL (T.take k)) N ∧ Below w.heap.size w wr) (fun _ i _ => n - (intOf i).toNat)
      case atStart => exact ⟨0, by omega, rfl, ⟨0, rfl, rfl⟩, HB1.out, HG1.out⟩
      case round =>
        obtain ⟨k, hk, rfl, ⟨m, rfl, hm⟩, hbuf, hbw⟩ := hrel
        have HM := Lib.hid hm
        have HBUF := Lib.hid hbuf
        have HBW := Lib.hid hbw
        have HBT := Lib.hid (HH.out.below hbw)
        clear hm hbuf hbw
        by_cases hkn : k < n
        · have hkz : (k : Int) < (n : Int) := by omega
          have hks : k < s.size := by omega
          have hkT : k < T.length := by have := HNN.out; omega
          obtain ⟨c, hc⟩ : ∃ c, s[k].toNat = c := ⟨_, rfl⟩
          have hTk : T[k] = c := by rw [← hc]; exact (HAT.out k hks hkT).symm
          have hc2 : c < 256 := by rw [← hTk]; exact HTL.out _ (List.getElem_mem hkT)
          have hcz : (c : Int) < 256 := by omega
          have HTK : Hid (T.take (k + 1) = T.take k ++ [c]) := Lib.hid (by rw [take_snoc hkT, hTk])
          have hle := escL_take_le T (k + 1)
          rw [HTK.out, escL_snoc, HEL.out, List.length_append] at hle
          clear hTk
          by_cases h2 : c = 34 ∨ c = 92
          · obtain ⟨g, cg, hg, hcg⟩ := HBT.out.esc h2
            rw [if_pos h2] at hle
            have hmN : m + 2 ≤ N := by rw [HM.out]; exact hle
            have HES : Hid (escL (T.take (k + 1)) = escL (T.take k) ++ [92, c]) := Lib.hid (by rw [HTK.out, escL_snoc, if_pos h2])
            have HCG := Lib.hid hcg
            have hmN1 : m ≤ N := by omega
            have hNm : ¬ (N = m) := by omega
            clear h2 hle hcg
            go_wp2_with (go_region_law (refine step_copy2 rfl (.tmp 105) (.tmp 111) rfl (m := m) (F := escL (T.take k)) (N := N) (d := [92, c]) rfl HM.out rfl (by omega) rfl HCG.out HBUF.out.drew (by rw [← HM.out]; exact hmN) ?_; intro w5 hb5 hbl5; have HB5 := Lib.hid hb5; have HBL5 := Lib.hid hbl5; clear hb5 hbl5))
            go_roundw
            case rel => exact ⟨k + 1, by omega, by go_num, ⟨m + 2, by go_num, by rw [HES.out, List.length_append, ← HM.out]; rfl⟩, by rw [HES.out]; exact HB5.out, HBW.out.drew.trans (HBL5.out.mono hwb)⟩
            case measure => simp [intOf]; omega
          · have hg := HBT.out.plain hc2 h2
            rw [if_neg h2] at hle
            have hmN : m + 1 ≤ N := by rw [HM.out]; exact hle
            have HES : Hid (escL (T.take (k + 1)) = escL (T.take k) ++ [c]) := Lib.hid (by rw [HTK.out, escL_snoc, if_neg h2])
            have z0 := HBUF.out.zero (by rw [← HM.out]; omega)
            have f0 := HBUF.out.froz m
            have hsn := HBUF.out.snoc (by rw [← HM.out]; omega) c
            rw [← HM.out] at z0 hsn
            have HSN := Lib.hid hsn
            have hmz : (m : Int) < (N : Int) := by omega
            clear h2 hle hsn
            go_wp2_with fail
            go_roundw
            case rel => exact ⟨k + 1, by omega, by go_num, ⟨m + 1, by go_num, by rw [HES.out, List.length_append, ← HM.out]; rfl⟩, by rw [HES.out]; exact HSN.out, below_setZ HBW.out hwb _⟩
            case measure => simp [intOf]; omega
        · obtain rfl : k = n := by omega
          have htk : T.take k = T := List.take_of_length_le (by have := HNN.out; omega)
          have hbuf := HBUF.out
          rw [htk] at hbuf
          have hcv := buf_str hbuf HEL.out (escL_lt HTL.out)
          clear htk hbuf
          go_wp2_with fail
          go_ret
          exact ⟨rfl, HBW.out⟩
end Go.Proofs.YtghibofnfjnfcaaGreatDoor
