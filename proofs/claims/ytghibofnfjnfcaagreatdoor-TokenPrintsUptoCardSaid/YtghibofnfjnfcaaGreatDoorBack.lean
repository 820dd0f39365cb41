/-
  TokenBack: the walk.
-/
import Derived.Test.YtghibofnfjnfcaaGreatDoorEql
import Derived.Deep.CutBlock
import Derived.Deep.CutRange
import Derived.Deep.DeepCutAuto
namespace Go.Proofs.YtghibofnfjnfcaaGreatDoor
set_option linter.unusedVariables false
open Go.RowKit

/-- Print, told in one way -/
theorem print_one (v : Value) (L : List TkI) (w : World) (hL : TkIn w v L) (hs : ∀ t ∈ L, ∀ c ∈ t.2, c < 256) (hw : wgt L ≤ 1048576) (ht : TabV w) :
    Calls Tryz.prog 8 #[v] w fun e w' => ∃ (o : Value) (n : Nat), e = .returned (.tuple #[o, .int .i64 (n : Nat)]) ∧ Below w.heap.size w w' ∧ ((n = 0 ∧ ∃ x, printL (L.map nrm) = some x ∧ OwnB w' w.heap.size o x) ∨ n = 9) :=
  (print_any2 v L w hL hs hw ht).mono (by
    rintro e w' (⟨x, o, hp, rfl, ho, hb⟩ | ⟨hp, rfl, hb⟩)
    · exact ⟨o, 0, rfl, hb, .inl ⟨rfl, x, hp, ho⟩⟩
    · exact ⟨_, 9, rfl, hb, .inr rfl⟩)
/-- what the lexer took is printed -/
theorem print_taken (v : Value) (m : List Tk) (b : List Nat) (w : World) (hL : TkIn w v (m.map intT)) (hb : ∀ c ∈ b, c < 256) (hl : b.length ≤ 65536) (h : lexS b = (0, m)) (ht : TabV w) :
    Calls Tryz.prog 8 #[v] w fun e w' => ∃ o, e = .returned (.tuple #[o, .int .i64 0]) ∧ OwnB w' w.heap.size o b ∧ Below w.heap.size w w' := by
  have hp := lex_print hb h
  obtain ⟨hr, hx⟩ := print_right hp
  have hlen : m.length ≤ 2 * b.length + 1 := by have := lexS_len b; rw [h] at this; exact this
  have hsaid : said (m.map intT) (m.map intT).length = b := by unfold said; rw [List.take_length, map_nrm_int hr, ← hx]
  refine (print_any v (m.map intT) w hL (fun t h2 => ?_) (by simp; omega) (by rw [hsaid]; omega) ht).mono ?_
  · obtain ⟨u, hu, rfl⟩ := List.mem_map.1 h2
    refine ⟨fun c hc => hb c ?_, ?_⟩
    · rw [hx]; exact List.mem_flatMap.2 ⟨u, hu, show_mem (hr u hu) hc⟩
    · have h3 := show_ge (hr u hu)
      have h4 := flat_ge hu
      rw [← hx] at h4
      show u.2.length ≤ _
      omega
  · rintro e w' (⟨x, o, hp2, rfl, ho, hb2⟩ | ⟨hp2, rfl, hb2⟩)
    · rw [map_nrm_int hr, hp] at hp2
      obtain rfl := Option.some.inj hp2
      exact ⟨o, rfl, ho, hb2⟩
    · rw [map_nrm_int hr, hp] at hp2
      cases hp2
theorem bytes_nat' (s : ByteArray) : strN (s.data.toList.map UInt8.toNat) = s := by
  apply ByteArray.ext
  apply Array.ext'
  show (List.map UInt8.ofNat (List.map UInt8.toNat s.data.toList)).toArray.toList = _
  rw [List.toList_toArray, List.map_map]
  conv => rhs; rw [← List.map_id s.data.toList]
  refine List.map_congr_left fun c _ => ?_
  simp
theorem tkIn_one (w : World) (z : Int) (T : List Nat) : TkIn (w.alloc (.cells #[.int .i64 z, .string (strN T)] 26)) (.slice (some ⟨w.heap.size, 0, none⟩) 1 1) [(z, T)] := by
  refine .inr ⟨w.heap.size, 0, 1, rfl, by simp, fun i hi => ?_⟩
  have : i = 0 := by simpa using hi
  subst this
  exact ⟨cell_of_row _ _ 0 _ 26 (0, 0) (heap_alloc_new w _), cell_of_row _ _ 1 _ 26 (0, 0) (heap_alloc_new w _)⟩

theorem quote_print (T : List Nat) (z : Int) (hz : z = if quoL T then 2 else 3) (hT : ∀ c ∈ T, c < 256) (hl : T.length ≤ 2000) (hp : printL [quoT T] = some (showT (quoT T))) (w : World) (v : Value) (hL : TkIn w v [(z, T)]) (ht : TabV w) :
    Calls Tryz.prog 8 #[v] w fun e w' => ∃ o, e = .returned (.tuple #[o, .int .i64 0]) ∧ OwnB w' w.heap.size o (showT (quoT T)) ∧ Below w.heap.size w w' := by
  have hn : [(z, T)].map nrm = [quoT T] := by
    subst hz
    unfold nrm quoT
    cases quoL T <;> rfl
  refine (print_any2 v [(z, T)] w hL (fun t h => by obtain rfl := List.mem_singleton.1 h; exact hT) (by unfold wgt; simp; omega) ht).mono ?_
  rw [hn, hp]
  rintro e w' (⟨x, o, hp2, rfl, ho, hb2⟩ | ⟨hp2, rfl, hb2⟩)
  · obtain rfl := Option.some.inj hp2
    exact ⟨o, rfl, ho, hb2⟩
  · cases hp2

set_option maxRecDepth 100000 in
set_option maxHeartbeats 8000000 in
theorem back_walk (w : World) (v : Value) (L : List TkI) (hL : TkIn w v L) (hs : ∀ t ∈ L, ∀ c ∈ t.2, c < 256) (hw : wgt L ≤ 1048576) (vb : Value) (b : List Nat) (hb : RowB w vb b) (hbl : b.length ≤ 1048576) (s : ByteArray) (hsl : s.size ≤ 1048576) (hr : RngV w) (ht : TabV w) :
    Calls Tryz.prog 4 #[v, vb, .string s] w fun e w' => e = .returned (.bool true) ∧ Below w.heap.size w w' := by
  obtain ⟨a, c, rfl⟩ := hL.shape
  obtain ⟨ab, cb, rfl⟩ : ∃ a c, vb = .slice a b.length c := by obtain ⟨a, len, c, e, h, _⟩ := hb; exact ⟨a, c, by rw [e, h]⟩
  have HL := Lib.hid hL
  have HS := Lib.hid hs
  have HW := Lib.hid hw
  have HBR := Lib.hid hb
  have HR := Lib.hid hr
  have HT := Lib.hid ht
  have HA := Lib.hid (awake_any w hr)
  have hlen : L.length ≤ 1048576 := by have := wgt_len L; omega
  clear hL hs hw hr ht hb
  by_cases hsm : L.length ≤ 300 ∧ b.length ≤ 65536 ∧ s.size ≤ 2000
  · obtain ⟨h1, h2, h3⟩ := hsm
    have e1 : ¬ (300 : Int) < (L.length : Int) := by omega
    have e2 : ¬ (65536 : Int) < (b.length : Int) := by omega
    have e3 : ¬ (2000 : Int) < (s.size : Int) := by omega
    have H2 := Lib.hid h2
    have H3 := Lib.hid h3
    clear h1 h2 h3
    go_enter Tryz.func4, Tryz.ntmps4
    go_upto_if 44 with (first
      | (go_at_call 6; refine HA.out.mono ?_; rintro e w1 ⟨rfl, hb1⟩; have HB1 := Lib.hid hb1; clear hb1)
      | (go_at_call 8; refine (print_one _ L w1 (HL.out.below HB1.out) HS.out HW.out (HT.out.below HB1.out)).mono ?_; rintro e w2 ⟨o, n, rfl, hb2, hway⟩; have HB2 := Lib.hid (HB1.out.trans (hb2.mono HB1.out.size)); have HWAY := Lib.hid hway; clear hb2 hway))
    go_cut [9] (fun u wx => Below w.heap.size w wx)
    case first =>
      rcases HWAY.out with ⟨rfl, x, hp, ho⟩ | rfl
      · obtain ⟨oa, oc, rfl⟩ := ho.shape
        have hxl := print_len hp HW.out
        have HROW := Lib.hid (ho.row (print_lt hp HS.out))
        have hlx := print_back hp
        have HMAP := Lib.hid (map_int_nrm (print_right hp).1)
        clear hp ho
        go_wp2_with fail
        refine (lex_any _ x w2 HROW.out (by omega) (HR.out.below HB2.out)).mono ?_
        rintro e w3 ⟨o3, rfl, ho3, hb3⟩
        rw [hlx] at ho3 ⊢
        have HTI : Hid (TkIn w3 o3 L) := Lib.hid (by have := ho3.tkIn; rwa [HMAP.out] at this)
        have HB3 := Lib.hid (HB2.out.trans (hb3.mono HB2.out.size))
        have HTL := Lib.hid (HL.out.below HB3.out)
        clear ho3 hb3 hlx
        go_wp2_with fail
        refine (plainI_yes HTI.out HTL.out (by omega)).mono ?_
        rintro e w4 ⟨rfl, hb4⟩
        have HB4 := Lib.hid (HB3.out.trans (hb4.mono HB3.out.size))
        clear hb4
        go_wp2_with fail
        go_meet
        case rel => exact HB4.out
      · go_wp2_with fail
        go_meet
        case rel => exact HB2.out
    case rest =>
      have HB5 := Lib.hid hcut
      clear hcut HWAY HB2
      have HB5R := Lib.hid (HBR.out.below HB5.out)
      go_upto_if 64 with (first
        | (go_at_call 16; refine (lex_any _ b wc HB5R.out (by omega) (HR.out.below HB5.out)).mono ?_; rintro e w6 ⟨o6, rfl, ho6, hb6⟩; have HO6 := Lib.hid ho6; have HB6 := Lib.hid (HB5.out.trans (hb6.mono HB5.out.size)); clear ho6 hb6))
      go_cut [13] (fun u wx => Below w.heap.size w wx)
      case first =>
        have hlt := HBR.out.lt
        generalize hlx : lexS b = r at *
        obtain ⟨f, m⟩ := r
        by_cases hf : f = 0
        · subst hf
          have HLX := Lib.hid hlx
          have HTI := Lib.hid HO6.out.tkIn
          have HLT := Lib.hid hlt
          clear hlx hlt
          go_wp2_with fail
          refine (print_taken _ m b w6 HTI.out HLT.out H2.out HLX.out (HT.out.below HB6.out)).mono ?_
          rintro e w7 ⟨o7, rfl, ho7, hb7⟩
          have HROW := Lib.hid (ho7.row HLT.out)
          have HB7 := Lib.hid (HB6.out.trans (hb7.mono HB6.out.size))
          have HB7R := Lib.hid (HBR.out.below HB7.out)
          clear ho7 hb7
          go_wp2_with fail
          refine (bytes_yes HROW.out HB7R.out).mono ?_
          rintro e w8 ⟨rfl, rfl⟩
          go_wp2_with fail
          go_meet
          case rel => exact HB7.out
        · have hfz : ((f : Int) == 0) = false := by simp; omega
          clear hlx hlt hf
          go_wp2_with fail
          go_meet
          case rel => exact HB6.out
      case rest =>
        have HB8 := Lib.hid hcut
        clear hcut HB6 HB5 HB5R HO6
        obtain ⟨T, hT⟩ : ∃ T : List Nat, T = s.data.toList.map UInt8.toNat := ⟨_, rfl⟩
        have HST : Hid (strN T = s) := Lib.hid (by rw [hT]; exact bytes_nat' s)
        have HTT : Hid (∀ c ∈ T, c < 256) := Lib.hid (by rw [hT]; intro c hc; obtain ⟨b, _, rfl⟩ := List.mem_map.1 hc; exact b.toNat_lt)
        have htl : T.length = s.size := by rw [hT, List.length_map]; rfl
        have HAT : Hid (∀ (k : Nat) (h : k < s.size) (h2 : k < T.length), s[k].toNat = T[k]) := Lib.hid (by intro k h h2; subst hT; simp [ByteArray.getElem_eq_getElem_data])
        have HTL := Lib.hid htl
        clear hT htl
        go_wp2_with fail
        go_loopw [15] (fun i wr => ∃ k : Nat, i = .int .i64 k ∧ k ≤ s.size ∧ wr = wc ∧ ∀ j (h : j < T.length), j < k → T[j] ≠ 0) (fun i _ => s.size - (intOf i).toNat)
        case atStart => exact ⟨0, rfl, by omega, rfl, fun j h g => by omega⟩
        case round =>
          obtain ⟨k, rfl, hk, rfl, hall⟩ := hrel
          have HALL := Lib.hid hall
          clear hall
          by_cases hkn : k < s.size
          · have hkz : (k : Int) < (s.size : Int) := by omega
            have hkl : k < T.length := by rw [HTL.out]; exact hkn
            obtain ⟨c0, hc⟩ : ∃ c, s[k].toNat = c := ⟨_, rfl⟩
            have hlc : T[k] = c0 := by rw [← hc]; exact (HAT.out k hkn hkl).symm
            by_cases h0 : c0 = 0
            · subst h0
              clear hlc
              go_wp2_with fail
              go_ret
              exact ⟨rfl, HB8.out⟩
            · have hc0 : ((c0 : Int) == 0) = false := by simp; omega
              have HNX : Hid (∀ j (h : j < T.length), j < k + 1 → T[j] ≠ 0) := Lib.hid (fun j h g => by
                by_cases e : j = k
                · subst e; rw [hlc]; exact h0
                · exact HALL.out j h (by omega))
              clear hlc h0
              go_wp2_with fail
              go_roundw
              case rel => exact ⟨k + 1, by go_num, by omega, by first | rfl | trivial, HNX.out⟩
              case measure => simp [intOf]; omega
          · have hkz : ¬ ((k : Int) < (s.size : Int)) := by omega
            have hnz : ∀ c ∈ T, c ≠ 0 := fun c hc => by
              obtain ⟨j, hj, rfl⟩ := List.mem_iff_getElem.1 hc
              exact HALL.out j hj (by have := HTL.out; omega)
            have hqp := quot_print (T := T) (by have := HTL.out; have := H3.out; omega) hnz
            have HQP := Lib.hid hqp
            have HQA := Lib.hid (quote_any T HTT.out (by have := HTL.out; omega))
            have HQL := Lib.hid (print_back hqp)
            clear hqp hnz
            have htl2 : T.length ≤ 2000 := by have := HTL.out; have := H3.out; omega
            go_wp2_with fail
            have hqa := HQA.out wr
            rw [HST.out] at hqa
            have hzz : ∃ z : Int, z = if quoL T then 2 else 3 := ⟨_, rfl⟩
            obtain ⟨z, hz⟩ := hzz
            rw [← hz] at hqa
            have HZ := Lib.hid hz
            clear hz
            refine hqa.mono ?_
            rintro e w9 ⟨rfl, hb9⟩
            have HB9 := Lib.hid (HB8.out.trans (hb9.mono HB8.out.size))
            clear hb9 hqa
            have htk := tkIn_one w9 z T
            rw [HST.out] at htk
            have HTK := Lib.hid htk
            have HBA := Lib.hid (HB9.out.alloc HB9.out.size (.cells #[.int .i64 z, .string s] 26))
            have HQPR := Lib.hid (quote_print T z HZ.out HTT.out htl2 HQP.out _ _ htk (HT.out.below HBA.out))
            clear htk
            go_wp2_with (first
              | (go_at_call 8; refine HQPR.out.mono ?_; rintro e w10 ⟨o10, rfl, ho10, hb10⟩; have HO10 := Lib.hid (ho10.row (showT_lt HTT.out)); have HB10 := Lib.hid (HBA.out.trans (hb10.mono HBA.out.size)); clear ho10 hb10))
            have hsl3 : (showT (quoT T)).length ≤ 30000000 := by have := showT_len (quoT T); have e : (quoT T).2.length = T.length := rfl; omega
            refine (lex_any _ _ w10 HO10.out hsl3 (HR.out.below HB10.out)).mono ?_
            rintro e w11 ⟨o11, rfl, ho11, hb11⟩
            rw [HQL.out] at ho11 ⊢
            have HB11 := Lib.hid (HB10.out.trans (hb11.mono HB10.out.size))
            obtain ⟨g, cap, hcc⟩ := ho11.cells
            obtain ⟨rfl, -, -, hcl⟩ := hcc (by simp)
            have hc1 := (hcl 0 (by simp)).2
            have hc2 : w11.cell? ⟨g, 1, none⟩ = some (.string s) := by
              have : strN ([quoT T][0]).2 = s := HST.out
              rw [this] at hc1
              simpa using hc1
            clear ho11 hb11 hcc hcl hc1
            go_wp2_with fail
            go_ret
            exact ⟨by first | rfl | simp, HB11.out⟩
  · have h3 : (300 : Int) < (L.length : Int) ∨ (65536 : Int) < (b.length : Int) ∨ (2000 : Int) < (s.size : Int) := by omega
    have hb3 : (decide ((300 : Int) < (L.length : Int)) || decide ((65536 : Int) < (b.length : Int)) || decide ((2000 : Int) < (s.size : Int))) = true := by simp; omega
    clear hsm
    go_enter Tryz.func4, Tryz.ntmps4
    go_wp2_with (first
      | (go_at_call 6; refine HA1.out.mono ?_; rintro e w2 ⟨rfl, hb2⟩; have HB2 := Lib.hid (HB1.out.trans (hb2.mono HB1.out.size)); clear hb2)
      | (go_at_call 6; refine HA.out.mono ?_; rintro e w1 ⟨rfl, hb1⟩; have HB1 := Lib.hid hb1; have HA1 := Lib.hid (awake_any w1 (HR.out.below hb1)); clear hb1))
    all_goals first
      | (exfalso; omega)
      | (go_ret; exact ⟨rfl, HB2.out⟩)
end Go.Proofs.YtghibofnfjnfcaaGreatDoor
