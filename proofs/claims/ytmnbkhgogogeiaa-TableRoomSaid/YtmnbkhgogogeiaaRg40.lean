/-
  Several texts of one proof, each in a section of its own: OpnC, Done.
-/
import Derived.Test.YtmnbkhgogogeiaaCmpNRg
import Derived.Test.YtmnbkhgogogeiaaRg30
import Derived.Test.YtmnbkhgogogeiaaRg23
import Derived.Test.YtmnbkhgogogeiaaApplGRg
namespace Go.Proofs.Ytmnbkhgogogeiaa
section
set_option linter.unusedVariables false
open Go.RowKit

set_option maxRecDepth 100000 in
set_option maxHeartbeats 4000000 in
theorem topen_c {B : Nat} {w0 w : World} {pd n : Nat} {kv : Value} (h : Held B w0 w pd kv (List.replicate n (zeros 64)) [] 0 false) (hn : 3 ≤ n) (hn2 : n ≤ 65536) (K : Nat) :
    Calls Try.prog 8 #[.pointer (some ⟨pd, 0, none⟩)] w fun e w' => ∃ pt pl, e = .returned (.tuple #[.pointer (some ⟨pt, 0, none⟩), .int .i64 0]) ∧ Tc B w0 w' pt pl pd kv ⟨K, 0, n - 2, 0, 0, n, 0⟩ [] ∧ Below w.heap.size w w' := by
  have HOP := Lib.hid (open_fresh h hn hn2)
  have HFF := Lib.hid (Fit.fresh n hn hn2)
  have HN : Hid (3 ≤ n ∧ n ≤ 65536 ∧ B ≤ w.heap.size) := Lib.hid ⟨hn, hn2, Nat.le_trans h.base h.below.size⟩
  clear h hn hn2
  go_enter Try.func8, Try.ntmps8
  go_wp2_with fail
  refine HOP.out.mono ?_
  rintro e w1 ⟨pl, rfl, hl1, -, hb1⟩
  have HL1 := Lib.hid hl1
  have HB1 := Lib.hid hb1
  have HSZ : Hid (Calls Try.prog 26 #[.pointer (some ⟨pd, 0, none⟩)] w1 fun e w' => e = .returned (.int .i64 (n : Nat)) ∧ w1 = w') := Lib.hid (by
    obtain ⟨wv, mv, hdk, _⟩ := hl1.disk.dk
    have := size_ok hdk
    rwa [List.length_replicate] at this)
  clear hl1 hb1
  go_upto_region 5 with (first | (go_at_call 26; refine HSZ.out.mono ?_; rintro e w' ⟨rfl, rfl⟩))
  have HX := Lib.hid (heap_alloc_new w1 (.cells #[.pointer (some ⟨pl, 0, none⟩), .int .i64 (n : Nat), .int .i64 0, .slice none 0 0] 68))
  have hA : Below w1.heap.size w1 (w1.alloc (.cells #[.pointer (some ⟨pl, 0, none⟩), .int .i64 (n : Nat), .int .i64 0, .slice none 0 0] 68)) := (Below.refl _ _).alloc (Nat.le_refl _) _
  have HL2 := Lib.hid (HL1.out.below hA)
  have HB2 := Lib.hid (HB1.out.trans (hA.mono HB1.out.size))
  have HPT : Hid (w.heap.size ≤ w1.heap.size) := Lib.hid HB1.out.size
  clear hA
  generalize w1.alloc (.cells #[.pointer (some ⟨pl, 0, none⟩), .int .i64 (n : Nat), .int .i64 0, .slice none 0 0] 68) = w2 at *
  generalize w1.heap.size = pt at *
  have HRC := Lib.hid (HL2.out.records (Nat.zero_le _) (fun x hx => by cases hx))
  go_wp2_with (first | (go_at_call 27; refine HRC.out.mono ?_; rintro e w3 ⟨o, M, rfl, hm, hmd, hb3⟩
                        have HB3 := Lib.hid hb3
                        obtain ⟨oa, oc, ho⟩ := own_shape hm.row
                        have hM0 : M.length = 0 := by have := congrArg List.length hmd; simpa [frS] using this
                        rw [hM0] at ho
                        subst ho
                        clear hm hmd hb3 hM0))
  go_loopw [27] (fun i wr => i = .int .i64 0 ∧ wr = w3) (fun i _ => 0)
  case atStart => exact ⟨rfl, rfl⟩
  case round =>
    obtain ⟨rfl, rfl⟩ := hrel
    rename World => w3
    go_wp2_with fail
    refine bodyPost_ret (v := .tuple #[.pointer (some ⟨pt, 0, none⟩), .int .i64 0]) (by simp [results, Try.results8, go_sem]) rfl ?_
    have htv : TbV w2 pt (.pointer (some ⟨pl, 0, none⟩)) n 0 (.slice none 0 0) := HX.out
    refine ⟨pt, pl, rfl, ⟨⟨_, _, _, HL2.out.below HB3.out, ⟨HFF.out, rfl, Nat.zero_le _, Nat.le_refl _, rfl, fun _ h => (by cases h), Nat.le_refl _, Nat.le_refl _, ⟨rfl, Nat.le_refl _⟩, Nat.zero_le _⟩⟩, ⟨0, _, [], htv.below HB3.out, ⟨Nat.zero_le _, fun _ => rfl⟩, ⟨World.ownsRow_nil _ _ _ _, fun _ h => by cases h⟩, rfl⟩, Nat.le_trans HN.out.2.2 HPT.out, Nat.zero_le _⟩, HB2.out.trans (HB3.out.mono HB2.out.size)⟩
end
section
set_option linter.unusedVariables false
open Go.RowKit

theorem run_str' {w : World} {v : Value} {l : List Nat} (h : RowB w v l) : (convert 23 9 v).run Try.prog w = .ok (.string (strN l)) w := run_str h
/-- where a row's tail begins -/
theorem RowS.tail {w : World} {B n cap : Nat} {a : Option Addr} {M : List KV} (h : RowS w B (.slice a n cap) M) (k : Nat) :
    ∃ A, (if cap = k then a else Option.map (fun x => x.add (k * 2)) a) = A ∧ ∀ W, Below w.heap.size w W → (M.drop k).length ≠ 0 → ∃ ad, A = some ad ∧ ∀ j u, (stC (M.drop k))[j]? = some u → W.cell? (ad.add j) = some u := by
  refine ⟨_, rfl, fun W hW h0 => ?_⟩
  rw [List.length_drop] at h0
  obtain ⟨g, cap2, e, h1, h2, h3, h4, hc, hf⟩ := h.cells (by omega)
  obtain ⟨rfl, rfl, rfl⟩ := Value.slice.inj e
  refine ⟨⟨g, k * 2, none⟩, by rw [if_neg (by omega)]; simp [Addr.add_lit], fun j u hj => ?_⟩
  rw [← stC_drop, List.getElem?_drop] at hj
  rw [Addr.add_lit, hW.cell (p := ⟨g, k * 2 + j, none⟩) h4]
  exact hc _ _ hj
theorem RowS.app {w : World} {B : Nat} {b0 : Option Addr} {i : Nat} {O N M : List KV} (hO : RowS w B (.slice b0 i i) O) {a : Option Addr} {m c n : Nat} (hm : N.length = m) (hN : N.length ≠ 0 → ∃ ad, a = some ad ∧ ∀ j u, (stC N)[j]? = some u → w.cell? (ad.add j) = some u) (hM : O ++ N = M) (hn : i + m = n) (hb : n ≤ 100000) (hB : B ≤ w.heap.size) :
    ∃ g cap' w', (∀ ty, (Builtin.append_ #[38, 38] ty #[.slice b0 i i, .slice a m c]).run Try.prog w = .ok (.slice g n cap') w') ∧ RowS w' B (.slice g n cap') M ∧ Below w.heap.size w w' := by
  subst hM
  subst hn
  obtain ⟨g, cap', w', h1, h2, h3, -⟩ := run_appS (w := w) (B := B) 38 hO (a := a) (m := m) (c := c) hm (fun h => hN (by omega)) (by omega) hB
  exact ⟨g, cap', w', fun ty => h1, h2, h3⟩
theorem putP_all {M : List KV} (h : AllB M) (c : Chg) (hk : ∀ n ∈ c.key, n < 256) (hv : ∀ n ∈ c.val, n < 256) : AllB (putP M c) := by
  intro x hx
  unfold putP at hx
  split at hx
  · split at hx
    · rcases List.mem_append.1 hx with hx | hx
      · exact h x (List.mem_of_mem_take hx)
      · exact h x (List.mem_of_mem_drop hx)
    · rcases List.mem_or_eq_of_mem_set hx with hx | rfl
      · exact h x hx
      · exact ⟨hk, hv⟩
  · split at hx
    · exact h x hx
    · rcases List.mem_append.1 hx with hx | hx
      · exact h x (List.mem_of_mem_take hx)
      · rcases List.mem_cons.1 hx with rfl | hx
        · exact ⟨hk, hv⟩
        · exact h x (List.mem_of_mem_drop hx)
theorem doneP_all (l : List Chg) {M : List KV} (h : AllB M) (hl : ∀ c ∈ l, (∀ n ∈ c.key, n < 256) ∧ ∀ n ∈ c.val, n < 256) : AllB (doneP M l) := by
  induction l generalizing M with
  | nil => exact h
  | cons c l ih => exact ih (putP_all h c (hl c (by simp)).1 (hl c (by simp)).2) fun d hd => hl d (by simp [hd])
theorem ChgV.lt256 {w : World} {v : Value} {C : List Chg} (h : ChgV w v C) : ∀ c ∈ C, (∀ n ∈ c.key, n < 256) ∧ ∀ n ∈ c.val, n < 256 := by
  intro c hc
  obtain ⟨k, hk, rfl⟩ := List.getElem_of_mem hc
  obtain ⟨g, off, cap, ka, kc, va, vc, -, -, -, -, -, r1, r2⟩ := h.at k hk
  exact ⟨r1.lt, r2.lt⟩

set_option maxRecDepth 100000 in
set_option maxHeartbeats 8000000 in
theorem done_any {w : World} {Bm : Nat} {vm v : Value} {M : List KV} {C : List Chg} (hm : RowS w Bm vm M) (hM : AllB M) (hv : ChgV w v C) (hlen : M.length + C.length ≤ 10000) (hs : ∀ c ∈ C, c.key.length ≤ 281474976710656 ∧ c.val.length ≤ 281474976710656) :
    Calls Try.prog 15 #[vm, v] w fun e w' => ∃ o, e = .returned o ∧ RowS w' w.heap.size o (doneP M C) ∧ Below w.heap.size w w' := by
  obtain ⟨a, cap, rfl, h1, h2, -⟩ := id hv
  obtain ⟨ma, mc, rfl, -⟩ := hm.shape
  have HV := Lib.hid hv
  have HMM := Lib.hid hM
  have HL := Lib.hid hlen
  have hcl : (C.length : Int) ≤ 10000 := by omega
  obtain ⟨oa, oc, w1, hr, hrow, hbel, hcap⟩ : ∃ oa oc w1, (Builtin.append_ #[38, 38] 38 #[.slice none 0 0, .slice ma M.length mc]).run Try.prog w = .ok (.slice oa M.length oc) w1 ∧ RowS w1 w.heap.size (.slice oa M.length oc) M ∧ Below w.heap.size w w1 ∧ M.length ≤ oc := by
    obtain ⟨oa, oc, w1, h1, h2, h3, h4⟩ := run_appS (w := w) (B := w.heap.size) 38 (b0 := none) (i := 0) (O := []) (N := M) (.inl ⟨rfl, rfl⟩) (a := ma) (m := M.length) (c := mc) rfl (fun h0 => by
      obtain ⟨g, cap, e, -, -, -, -, hc, -⟩ := hm.cells (by omega)
      obtain ⟨rfl, -, -⟩ := Value.slice.inj e
      exact ⟨_, rfl, fun j u hj => by rw [Addr.add_lit, Nat.zero_add]; exact hc j u hj⟩) (by omega) (Nat.le_refl _)
    rw [Nat.zero_add] at h1 h2 h4
    exact ⟨oa, oc, w1, h1, h2, h3, h4⟩
  have HR := Lib.hid hr
  have HROW := Lib.hid hrow
  have HBEL := Lib.hid hbel
  clear h1 h2 hv hm hM hr hrow hbel hcap hlen hs
  go_enter Try.func15, Try.ntmps15
  go_upto_region 2 with (at_builtin; go_loud (refine list_appR (.const (.slice none 0 0)) (.tmp 10) 38 38 (vx := .slice none 0 0) (vy := .slice ma M.length mc) rfl rfl rfl rfl HR.out ?_))
  clear HR
  go_wp2_with fail
  go_loopw [6, 5] (fun i o wr => ∃ k N, k ≤ C.length ∧ i = .int .i64 (k : Nat) ∧ N = doneP M (C.take k) ∧ RowS wr w.heap.size o N ∧ Below w.heap.size w wr) (fun i _ _ => C.length - (RowKit.intOf i).toNat)
  case atStart => exact ⟨0, M, Nat.zero_le _, rfl, rfl, HROW.out, HBEL.out⟩
  case round =>
    obtain ⟨k, N, hk, rfl, hN, hrow, hb⟩ := hrel
    rename World => wr
    obtain ⟨oa, oc, rfl, hcapn⟩ := hrow.shape
    have HB := Lib.hid hb
    have HR := Lib.hid hrow
    by_cases hkn : k < C.length
    · have hkz : (k : Int) < (C.length : Int) := by omega
      obtain ⟨g, off, cap2, ka, kc, va, vc, e, hcap, c0, c1, c2, r1, r2⟩ := (HV.out.below hb).at k hkn
      obtain ⟨rfl, -, rfl⟩ := Value.slice.inj e
      have HNX : Hid (doneP M (C.take (k + 1)) = putP N C[k]) := Lib.hid (by rw [doneP_take _ _ _ hkn, hN])
      have HNL : Hid (N.length ≤ 10000 ∧ AllB N) := Lib.hid (by
        rw [hN]
        have h1 := doneP_length (C.take k) M
        have h2 := HL.out
        have h3 := HV.out.lt256
        rw [List.length_take] at h1
        exact ⟨by omega, doneP_all _ HMM.out fun c hc => h3 c (List.mem_of_mem_take hc)⟩)
      obtain ⟨d, hd⟩ : ∃ d, C[k] = d := ⟨_, rfl⟩
      rw [hd] at c0 c1 c2 r1 r2 HNX
      obtain ⟨key, val, drop⟩ := d
      simp only at c0 c1 c2 r1 r2
      have HRK := Lib.hid (And.intro r1 r2)
      have hks := run_str' r1
      obtain ⟨sk, hsk⟩ : ∃ sk, strN key = sk := ⟨_, rfl⟩
      rw [hsk] at hks
      have HKN := Lib.hid hkn
      have hcz : (k : Int) < (cap : Int) := by omega
      clear hrow hb hN hcap e hd r1 r2
      go_upto_block 2 with (fail)
      clear hks c0
      obtain ⟨sc, hsc⟩ : ∃ sc, scanL N key = sc := ⟨_, rfl⟩
      have HSC : Hid (scanL N key = sc ∧ sc ≤ N.length) := Lib.hid ⟨hsc, by rw [← hsc]; exact scanL_le _ _⟩
      have HST : Hid (∀ j, j < N.length → j ≤ sc → ∃ gb sj, oa = some ⟨gb, 0, none⟩ ∧ wr.cell? ⟨gb, j * 2, none⟩ = some (.string sj) ∧ Op.bytesLess sj.toList sk.toList = decide (j < sc) ∧ (sj.toList == sk.toList) = decide (N[j]?.map (·.1) = some key)) := Lib.hid (by
        intro j h hj
        obtain ⟨g, cap, e, -, h1, -, -⟩ := HR.out.at j h
        obtain ⟨rfl, -, -⟩ := Value.slice.inj e
        have hb := (HNL.out.2 _ (List.getElem_mem h)).1
        refine ⟨g, strN N[j].1, rfl, h1, ?_, ?_⟩
        · rw [← hsk, bytesLess_strN _ _ hb HRK.out.1.lt]
          have := scanL_step N key j h (by rw [hsc]; exact hj)
          rw [hsc] at this
          simp only [this]
        · rw [← hsk, beq_strN _ _ hb HRK.out.1.lt, List.getElem?_eq_getElem h]
          simp)
      obtain ⟨n, hn⟩ : ∃ n, N.length = n := ⟨_, rfl⟩
      rw [hn] at hcapn HSC HST HNL HR
      have HN := Lib.hid hn
      rw [hn]
      clear hsc hn
      go_cut [8] (fun u wx => u = .int .i64 (sc : Nat) ∧ wx = wr)
      case first =>
        go_wp2_with fail
        go_loopw [8] (fun i w2 => ∃ j : Nat, j ≤ sc ∧ i = .int .i64 (j : Nat) ∧ w2 = wr) (fun i _ => sc - (RowKit.intOf i).toNat)
        case atStart => exact ⟨0, Nat.zero_le _, rfl, rfl⟩
        case round =>
          obtain ⟨j, hj, rfl, rfl⟩ := hrel
          have hsn := HSC.out.2
          by_cases hjs : j < sc
          · obtain ⟨gb, sj, hoa, hcj, hl, -⟩ := HST.out j (by omega) (by omega)
            rw [decide_eq_true hjs] at hl
            subst hoa
            have hjz : (j : Int) < (n : Int) := by omega
            have HJ := Lib.hid hjs
            have hjb : (j : Int) < 10000 := by have := HNL.out.1; omega
            clear hsn hjs
            go_wp2_with fail
            go_roundw
            case rel => exact ⟨j + 1, HJ.out, by go_num, by first | rfl | trivial⟩
            case measure => have := HJ.out; simp [intOf]; omega
          · obtain rfl : j = sc := by omega
            by_cases hjn : j < n
            · obtain ⟨gb, sj, hoa, hcj, hl, -⟩ := HST.out j (by omega) (by omega)
              rw [decide_eq_false (Nat.lt_irrefl j)] at hl
              subst hoa
              have hjz : (j : Int) < (n : Int) := by omega
              clear hsn hjs hjn
              go_wp2_with fail
              go_meet
              exact ⟨rfl, rfl⟩
            · obtain rfl : j = n := by omega
              clear hsn hjs hjn
              go_wp2_with fail
              go_meet
              exact ⟨rfl, rfl⟩
      case rest =>
        obtain ⟨rfl, rfl⟩ := hcut
        rename World => wr
        obtain ⟨z, hz⟩ : ∃ z, decide (N[sc]?.map (·.1) = some key) = z := ⟨_, rfl⟩
        have HZ := Lib.hid hz
        go_upto_region 9 with (fail)
        go_cut [9] (fun u wx => u = .bool z ∧ wx = wr)
        case first =>
          by_cases hsn : sc < n
          · obtain ⟨gb, sj, hoa, hcj, -, hl⟩ := HST.out sc hsn (Nat.le_refl _)
            rw [hz] at hl
            subst hoa
            have hjz : (sc : Int) < (n : Int) := by omega
            clear hsn hz
            go_wp2_with fail
            go_meet
            exact ⟨rfl, rfl⟩
          · have hzf : z = false := by rw [← hz, List.getElem?_eq_none (by rw [HN.out]; omega)]; rfl
            have hse : sc = n := by have := HSC.out.2; omega
            subst hse
            subst hzf
            clear hsn hz
            go_wp2_with fail
            go_meet
            exact ⟨rfl, rfl⟩
        case rest =>
          obtain ⟨rfl, rfl⟩ := hcut
          rename World => wr
          clear hz
          have hsn := HSC.out.2
          have hsz : (sc : Int) ≤ (n : Int) := by omega
          have hsz2 : (sc : Int) ≤ (oc : Int) := by omega
          have hnz : (n : Int) ≤ (oc : Int) := by omega
          have hnb : (n : Int) ≤ 10000 := by have := HNL.out.1; omega
          have hwB : w.heap.size ≤ wr.heap.size := HB.out.size
          have HWB := Lib.hid hwB
          obtain ⟨sv, hsv⟩ : ∃ sv, strN val = sv := ⟨_, rfl⟩
          cases drop
          · cases z
            · have hzq := of_decide_eq_false HZ.out
              have c1d : wr.drew.cell? ⟨g, off + k * 3 + 1, none⟩ = some (.slice va val.length vc) := c1
              have hvd := run_str' (HRK.out.2.below (Below.refl _ _).drew)
              rw [hsv] at hvd
              obtain ⟨A, hA, hAc⟩ := HR.out.tail sc
              have hdl : (N.drop sc).length = n - sc := by rw [List.length_drop, HN.out]
              have HZZ := Lib.hid (heap_alloc_new wr (.cells #[.string sk, .string sv] 45))
              have hb3 : Below wr.heap.size wr (wr.alloc (.cells #[.string sk, .string sv] 45)) := (Below.refl _ _).alloc (Nat.le_refl _) _
              have hr64 : RowS (wr.alloc (.cells #[.string sk, .string sv] 45)).drew w.heap.size (.slice (some ⟨wr.heap.size, 0, none⟩) 1 1) [(key, val)] := by
                refine .inr ⟨wr.heap.size, 1, #[.string sk, .string sv], rfl, HWB.out, HZZ.out, by simp, by decide, by simp, ?_⟩
                rw [← hsk, ← hsv]
                rfl
              obtain ⟨m1, hm1⟩ : ∃ m1, 1 + (n - sc) = m1 := ⟨_, rfl⟩
              obtain ⟨g1, cp1, w4, hap1, hr1, hb4⟩ := RowS.app (n := m1) (c := oc - sc) hr64 hdl (fun h => hAc _ hb3.drew h) rfl hm1 (by have := HNL.out.1; omega) (Nat.le_trans HWB.out hb3.size)
              have hb04 : Below wr.heap.size wr w4 := hb3.drew.trans (hb4.mono hb3.drew.size)
              have hcut : RowS w4 w.heap.size (.slice oa sc sc) (N.take sc) := (HR.out.below hb04).cut sc (by rw [HN.out]; exact HSC.out.2) (fun _ _ => Nat.zero_le _)
              obtain ⟨g2, cp2, w5, hap2, hr2, hb5⟩ := RowS.app (a := g1) (n := n + 1) (m := m1) (c := cp1) (M := putP N ⟨key, val, false⟩) hcut (N := [(key, val)] ++ N.drop sc) (by simp [hdl]; omega) (fun h => by
                obtain ⟨g, cap, e, -, -, -, -, hc, -⟩ := hr1.cells (by omega)
                obtain ⟨rfl, -, -⟩ := Value.slice.inj e
                exact ⟨_, rfl, fun j u hj => by rw [Addr.add_lit, Nat.zero_add]; exact hc j u hj⟩) (by rw [putP_00 HSC.out.1 hzq]; rfl) (by have := HSC.out.2; omega) (by have := HNL.out.1; omega) (Nat.le_trans HWB.out hb04.size)
              have HFN : Hid (RowS w5 w.heap.size (.slice g2 (n + 1) cp2) (putP N ⟨key, val, false⟩) ∧ Below w.heap.size w w5) := Lib.hid ⟨hr2, HB.out.trans ((hb04.trans (hb5.mono hb04.size)).mono HB.out.size)⟩
              have HFL : Hid (n + 1 = (putP N ⟨key, val, false⟩).length) := Lib.hid (by
                obtain ⟨_, _, e, _⟩ := hr2.shape
                obtain ⟨-, e, -⟩ := Value.slice.inj e
                exact e)
              have HA1 := Lib.hid hap1
              have HA2 := Lib.hid hap2
              clear hAc hdl hb3 hr64 hm1 hap1 hr1 hb4 hb04 hcut hap2 hr2 hb5 hzq hwB
              go_upto_region 10 with (fail)
              go_region_law (first
                | (refine step_appR (.tmp 64) (.tmp 67) 38 38 (vx := .slice (some ⟨wr.heap.size, 0, none⟩) 1 1) (vy := .slice A (n - sc) (oc - sc)) rfl rfl (by simp [Act.eval]) (by simp [Act.eval]) (HA1.out _) ?_)
                | (refine step_appR (.tmp 55) (.tmp 68) 38 38 (vx := .slice oa sc sc) (vy := .slice g1 m1 cp1) rfl rfl (by simp [Act.eval]) (by simp [Act.eval]) (HA2.out _) ?_))
              all_goals
                go_wp2_with fail
                go_roundw
                case rel => exact ⟨k + 1, putP N ⟨key, val, false⟩, HKN.out, by go_num, HNX.out.symm, HFN.out.1, HFN.out.2⟩
                case measure => have := HKN.out; simp [intOf]; omega
            · have hzq := of_decide_eq_true HZ.out
              obtain ⟨hsl, hkey⟩ := there_lt hzq
              obtain ⟨gb, cap3, e, hc3, d0, d1, df⟩ := HR.out.at sc hsl
              obtain ⟨rfl, -, rfl⟩ := Value.slice.inj e
              have hvs := run_str' HRK.out.2
              rw [hsv] at hvs
              have HFN : Hid (RowS (wr.setCell ⟨gb, sc * 2 + 1, none⟩ (.string sv)) w.heap.size (.slice (some ⟨gb, 0, none⟩) n oc) (putP N ⟨key, val, false⟩) ∧ Below w.heap.size w (wr.setCell ⟨gb, sc * 2 + 1, none⟩ (.string sv))) := Lib.hid (by
                rw [putP_01 HSC.out.1 hzq, ← hsv]
                refine ⟨RowS.set HR.out sc (key, val) hsl hkey.symm, HB.out.setCell (p := ⟨gb, sc * 2 + 1, none⟩) ?_ _⟩
                rcases HR.out with ⟨e, -⟩ | ⟨g2, _, _, e, h, _⟩
                · cases e
                · obtain ⟨e, -, -⟩ := Value.slice.inj e
                  obtain rfl : gb = g2 := by simpa using e
                  exact h)
              have hf1 := df (sc * 2 + 1)
              have hlz : (sc : Int) < (n : Int) := by rw [HN.out] at hsl; omega
              generalize strN N[sc].2 = sold at *
              clear hzq hsl hkey e hc3 d0 df hwB
              go_wp2_with fail
              go_roundw
              case rel => exact ⟨k + 1, putP N ⟨key, val, false⟩, HKN.out, by go_num, HNX.out.symm, HFN.out.1, HFN.out.2⟩
              case measure => have := HKN.out; simp [intOf]; omega
          · cases z
            · have HPQ : Hid (putP N ⟨key, val, true⟩ = N) := Lib.hid (putP_10 HSC.out.1 (of_decide_eq_false HZ.out))
              go_wp2_with fail
              go_roundw
              case rel => exact ⟨k + 1, N, HKN.out, by go_num, by rw [HNX.out, HPQ.out], HR.out, HB.out⟩
              case measure => have := HKN.out; simp [intOf]; omega
            · have hzq := of_decide_eq_true HZ.out
              obtain ⟨hsl, -⟩ := there_lt hzq
              rw [HN.out] at hsl
              obtain ⟨A, hA, hAc⟩ := HR.out.tail (sc + 1)
              have hdl : (N.drop (sc + 1)).length = n - (sc + 1) := by rw [List.length_drop, HN.out]
              have hbd : Below wr.heap.size wr wr.drew := (Below.refl _ _).drew
              have hcut : RowS wr.drew w.heap.size (.slice oa sc sc) (N.take sc) := (HR.out.below hbd).cut sc (by rw [HN.out]; exact HSC.out.2) (fun _ _ => Nat.zero_le _)
              obtain ⟨m1, hm1⟩ : ∃ m1, sc + (n - (sc + 1)) = m1 := ⟨_, rfl⟩
              obtain ⟨g2, cp2, w5, hap2, hr2, hb5⟩ := RowS.app (a := A) (n := m1) (c := oc - (sc + 1)) (M := putP N ⟨key, val, true⟩) hcut hdl (fun h => hAc _ hbd h) (by rw [putP_11 HSC.out.1 hzq]) hm1 (by have := HNL.out.1; omega) HWB.out
              have HFN : Hid (RowS w5 w.heap.size (.slice g2 m1 cp2) (putP N ⟨key, val, true⟩) ∧ Below w.heap.size w w5) := Lib.hid ⟨hr2, HB.out.trans ((hbd.trans hb5).mono HB.out.size)⟩
              have HA2 := Lib.hid hap2
              have hs1 : (sc : Int) + 1 ≤ (n : Int) := by omega
              have hs2 : (sc : Int) + 1 ≤ 9223372036854775807 := by omega
              have hw1 : IntKind.i64.wrap ((sc : Int) + 1) = (sc : Int) + 1 := wrap_ok _ (by omega) (by omega)
              have hti : ((sc : Int) + 1).toNat = sc + 1 := by omega
              have h0z : (0 : Int) ≤ (sc : Int) + 1 := by omega
              clear hAc hdl hbd hcut hm1 hap2 hr2 hb5 hzq hwB hsl
              go_upto_region 12 with (fail)
              go_region_law (first
                | (refine step_appR (.tmp 82) (.tmp 86) 38 38 (vx := .slice oa sc sc) (vy := .slice A (n - (sc + 1)) (oc - (sc + 1))) rfl rfl (by simp [Act.eval, Act.put]) (by simp [Act.eval, Act.put]) (HA2.out _) ?_))
              all_goals
                go_wp2_with fail
                go_roundw
                case rel => exact ⟨k + 1, putP N ⟨key, val, true⟩, HKN.out, by go_num, HNX.out.symm, HFN.out.1, HFN.out.2⟩
                case measure => have := HKN.out; simp [intOf]; omega
    · obtain rfl : k = C.length := by omega
      rw [List.take_length] at hN
      have HND := Lib.hid hN
      clear hb hrow hN
      go_wp2_with fail
      go_ret
      exact ⟨_, rfl, by rw [← HND.out]; exact HR.out, HB.out⟩
end
end Go.Proofs.Ytmnbkhgogogeiaa
