/-
  The reference's Encode, at every text.
-/
import Derived.Test.YtcddppgnmephnaaDoorREnd
import Derived.Test.YtcddppgnmephnaaDoorEnc
import Derived.Laws.IdiomStrings
namespace Go.Proofs.YtcddppgnmephnaaDoor
set_option linter.unusedVariables false
open Go.RowKit Go.Lib

/-- one byte of the call's own, as a text -/
theorem conv1 (w : World) (r : Nat) (hr : r ≤ 255) : (convert 29 9 (.slice (some ⟨w.heap.size, 0, none⟩) 1 1)).run Tryd.prog (w.alloc (.cells #[.int .u8 (r : Int)] 5)).drew = .ok (.string (strL [r.toUInt8])) (w.alloc (.cells #[.int .u8 (r : Int)] 5)).drew := by
  have h := run_convert_bytes_back (P := Tryd.prog) (w.alloc (.cells #[.int .u8 (r : Int)] 5)).drew 29 9 5 ⟨w.heap.size, 0, none⟩ 1 [r.toUInt8] Tryd.underlying29 Tryd.underlying5 Tryd.underlying9 ?_
  · exact h
  · intro j hj
    obtain rfl : j = 0 := by simpa using hj
    have e : ((w.alloc (.cells #[.int .u8 (r : Int)] 5)).drew).cell? ⟨w.heap.size, 0, none⟩ = some (.int .u8 (r : Int)) := (cell_of_row (w.alloc (.cells #[.int .u8 (r : Int)] 5)) _ 0 _ 5 (0, 0) (heap_alloc_new w _))
    rw [show (⟨w.heap.size, 0, none⟩ : Addr).add 0 = ⟨w.heap.size, 0, none⟩ from rfl, e]
    have : (r.toUInt8.toNat : Int) = (r : Int) := by rw [Nat.toUInt8_eq, UInt8.toNat_ofNat']; omega
    simp
    omega
theorem RAt.alloc {w : World} {p : Nat} {W : Wr} (k : RAt w p W) (o : Obj) : RAt (w.alloc o) p W := ⟨(Lib.alloc_old w o p k.lt).trans k.row⟩
theorem RAt.new (w : World) : RAt (w.alloc (.cells #[.string ⟨#[]⟩, .int .u32 0, .int .i64 0, .bool false] 41)) w.heap.size w0 := ⟨heap_alloc_new w _⟩
theorem extract_list (s : ByteArray) (i : Nat) : (s.extract i s.size).data.toList = s.data.toList.drop i := by
  rw [ByteArray.data_extract, Array.toList_extract, List.extract_eq_take_drop]
  apply List.take_of_length_le
  rw [List.length_drop, ← Lib.size_eq]
  omega
theorem decodeGo_at (s : ByteArray) (i : Nat) (h : i < s.size) : Lib.decodeGo (s.extract i s.size) = Utf8.decode s i := by
  have hsz : (s.extract i s.size).size ≠ 0 := by simp; omega
  unfold Lib.decodeGo
  rw [if_neg hsz, ← decodeL_drop s i, ← extract_list]
  rfl

set_option maxHeartbeats 2000000 in
set_option maxRecDepth 100000 in
theorem renc_any (s : ByteArray) (hs : s.size ≤ 100000) (w : World) (hT : Tabs w) :
    Calls Tryd.prog 11 #[.string s] w fun e w' => e = .returned (encV s.data.toList) ∧ Below w.heap.size w w' := by
  have hv := Tryd.utf8_ValidString s w (by omega) hT
  unfold encV
  cases hval : validD s.data.toList with
  | false =>
    rw [hval] at hv
    go_enter Tryd.func11, Tryd.ntmps11
    go_wp2_with (go_at_call 17; refine hv.mono ?_; rintro e w1 ⟨rfl, hb1⟩)
    exact bodyPost_ret (v := .tuple #[.string ⟨#[]⟩, .int .i64 9]) (by simp [results, Tryd.results11, go_sem]) rfl ⟨rfl, hb1⟩
  | true =>
    rw [hval] at hv
    have hT2 := hT.size
    go_enter Tryd.func11, Tryd.ntmps11
    go_wp2_with (go_at_call 17; refine hv.mono ?_; rintro e w1 ⟨rfl, hb1⟩; have HB := Lib.hid hb1; have hsz := hb1.size; have HT := Lib.hid (hT.below hb1 hT2); clear hb1)
    obtain ⟨w2, hw2⟩ : ∃ w2, w2 = w1.alloc (.cells #[.string ⟨#[]⟩, .int .u32 0, .int .i64 0, .bool false] 41) := ⟨_, rfl⟩
    have hA2 : RAt w2 w1.heap.size w0 := by rw [hw2]; exact RAt.new w1
    have hB2 : Below w1.heap.size w1 w2 := by rw [hw2]; exact (Below.refl _ _).alloc (Nat.le_refl _) _
    rw [← hw2]
    clear hw2
    obtain ⟨p, hp⟩ : ∃ p, w1.heap.size = p := ⟨_, rfl⟩
    rw [hp] at hA2 hB2 ⊢
    have HS := Lib.hid (And.intro hval hp)
    have hp2 : 2 ≤ p := by omega
    clear hval hv hp
    go_loopw [5] (fun i wr => ∃ (pos : Nat) (W : Wr), i = .int .i64 pos ∧ RAt wr p W ∧ Below p w1 wr ∧ W.Good ∧ (runesD (s.data.toList.drop pos)).foldl signS W = (runesD s.data.toList).foldl signS w0 ∧ W.out.length ≤ 8 * pos ∧ pos ≤ s.size) (fun i _ => s.size - (RowKit.intOf i).toNat)
    case atStart => exact ⟨0, w0, rfl, hA2, hB2, good0, by simp, by simp [w0], by omega⟩
    case round =>
      obtain ⟨pos, W, rfl, hA, hbw, hg, hf, hl, hps⟩ := hrel
      have hl9 : W.out.length + 9 ≤ 1000000 := by omega
      have hl3 : W.out.length + 3 ≤ 1000000 := by omega
      by_cases hp : pos < s.size
      · have hpz : (pos : Int) < (s.size : Int) := by omega
        have hne : s.data.toList.drop pos ≠ [] := by
          intro e
          have := congrArg List.length e
          rw [List.length_drop, ← Lib.size_eq] at this
          simp at this
          omega
        have hdd := decodeL_drop s pos
        have hru := decodeL_rune (s.data.toList.drop pos)
        have hwl := decodeL_le (s.data.toList.drop pos) hne
        have hw1 := decodeL_width (s.data.toList.drop pos)
        rw [List.length_drop, ← Lib.size_eq] at hwl
        rw [runesD_step _ hne, List.drop_drop] at hf
        rw [hdd] at hru hwl hw1 hf
        have hdec : ∀ wr, Below p w1 wr → Calls Tryd.prog 21 #[.string (s.extract pos s.size)] wr fun e w' => e = .returned (.tuple #[.int .i32 (Utf8.decode s pos).1, .int .i64 (Utf8.decode s pos).2]) ∧ Below wr.heap.size wr w' := fun wr hb => by
          have := Tryd.utf8_DecodeRuneInString (s.extract pos s.size) wr (HT.out.below hb hp2)
          rw [decodeGo_at s pos hp] at this
          exact this
        obtain ⟨R, hR⟩ : ∃ R, (Utf8.decode s pos).1 = R := ⟨_, rfl⟩
        obtain ⟨D, hD⟩ : ∃ D, (Utf8.decode s pos).2 = D := ⟨_, rfl⟩
        rw [hR] at hdec hru hf
        rw [hD] at hdec hwl hw1 hf
        obtain ⟨sg1, sg2⟩ := signS_good hg R hru
        obtain ⟨eg1, eg2, eg3⟩ := endS_good hg
        obtain ⟨q, hq⟩ : ∃ q, pos + D = q := ⟨_, rfl⟩
        have hadd : (pos : Int) + (D : Int) = (q : Int) := by omega
        have hz1 : plainR R = true → (32 : Int) ≤ (R : Int) := fun h => by simp [plainR] at h; omega
        have hz2 : plainR R = true → (R : Int) ≤ 126 := fun h => by simp [plainR] at h; omega
        have hn1 : R < 32 → ¬ ((32 : Int) ≤ (R : Int)) := fun h => by omega
        have hn2 : ¬ R ≤ 126 → ¬ ((R : Int) ≤ 126) := fun h => by omega
        rw [hq] at hf
        have HF := Lib.hid hf
        have HQ := Lib.hid hq
        clear hq
        have hdecw := hdec wr hbw
        clear hdec hf hR hD hdd
        cases hpl : plainR R with
        | true =>
          have hz1 := hz1 hpl
          have hz2 := hz2 hpl
          clear hn1 hn2
          have hend : ∀ w2, RAt w2 p W → Calls Tryd.prog 22 #[.pointer (some ⟨p, 0, none⟩)] w2 _ := fun w2 h2 => rend_any p W w2 h2 hg hl3
          have HA := Lib.hid hA
          have HBW := Lib.hid hbw
          have HE := Lib.hid hend
          have hlt := hA.lt
          have hltp : p ≤ wr.heap.size := by omega
          clear hend hA hbw
          by_cases h38 : R = 38
          · have hsg : signS W R = { endS W with out := ((endS W).out ++ [(38 : UInt8)]) ++ [45] } := by
              unfold signS
              rw [if_pos hpl]
              simp [h38]
            subst h38
            have HG := Lib.hid (And.intro hsg sg1)
            have HG2 := Lib.hid sg2
            clear hsg sg1 sg2
            go_wp2_with (first
              | (go_at_call 21; refine hdecw.mono ?_; rintro e w2 ⟨rfl, hb2⟩; have HB2 := Lib.hid hb2; clear hb2)
              | (go_at_call 22; refine (HE.out _ (HA.out.keep HB2.out hlt)).mono ?_; rintro e w3 ⟨rfl, h3, hb3⟩; obtain ⟨d0, d1, d2, d3, y0, y1, y2, y3⟩ := h3.at; have H3 := Lib.hid h3; have HB3 := Lib.hid hb3; clear h3 hb3))
            have hlt3 := H3.out.lt
            have hRu : IntKind.u8.wrap (38 : Int) = (38 : Int) := IntWalk.u8_in _ (by omega)
            have hconv : (convert 29 9 (.slice (some ⟨w3.heap.size, 0, none⟩) 1 1)).run Tryd.prog (w3.alloc (.cells #[.int .u8 (38 : Int)] 5)).drew = .ok (.string (strL [(38 : UInt8)])) (w3.alloc (.cells #[.int .u8 (38 : Int)] 5)).drew := conv1 w3 38 (by omega)
            have hcat : ∀ w : World, (Op.stringOp .add (strL (endS W).out) (strL [(38 : UInt8)])).run Tryd.prog w = .ok (.string (strL ((endS W).out ++ [(38 : UInt8)]))) w := fun w => cat_any _ _ (by simp; omega) w
            go_region
            have h4 := ((H3.out.set0 ((endS W).out ++ [(38 : UInt8)])).alloc (.cells #[.int .u8 (38 : Int)] 5)).drew
            have hb4 := ((((HBW.out.trans (HB2.out.mono hltp)).trans HB3.out).setCell (p := ⟨p, 0, none⟩) (Nat.le_refl _) (.string (strL ((endS W).out ++ [(38 : UInt8)])))).alloc (by simp; omega) (.cells #[.int .u8 (38 : Int)] 5)).drew
            clear d0 d1 d2 d3 y0 y1 y2 y3 H3 HB3 hcat hconv
            generalize ((w3.setCell ⟨p, 0, none⟩ (.string (strL ((endS W).out ++ [(38 : UInt8)])))).alloc (.cells #[.int .u8 (38 : Int)] 5)).drew = w4 at *
            obtain ⟨d0, d1, d2, d3, y0, y1, y2, y3⟩ := h4.at
            have H4 := Lib.hid h4
            have HB4 := Lib.hid hb4
            clear h4 hb4
            have hcat2 : ∀ w : World, (Op.stringOp .add (strL ((endS W).out ++ [(38 : UInt8)])) ⟨#[45]⟩).run Tryd.prog w = .ok (.string (strL (((endS W).out ++ [(38 : UInt8)]) ++ [45]))) w := fun w => cat_any _ [45] (by simp; omega) w
            go_wp2
            go_roundw
            case rel =>
              refine ⟨q, signS W 38, rfl, ?_, HB4.out.setCell (p := ⟨p, 0, none⟩) (Nat.le_refl _) _, HG.out.2, HF.out, by have := HG2.out; have := HQ.out; omega, by have := HQ.out; omega⟩
              rw [HG.out.1]
              simp only [List.append_assoc, List.cons_append, List.nil_append]
              exact H4.out.set0 _
            case measure =>
              simp [RowKit.intOf]
              have := HQ.out
              omega
          · have hsg : signS W R = { endS W with out := (endS W).out ++ [R.toUInt8] } := by
              unfold signS
              rw [if_pos hpl]
              simp [h38]
            have hz38 : ¬ ((R : Int) = 38) := by omega
            have HG := Lib.hid (And.intro hsg sg1)
            have HG2 := Lib.hid sg2
            clear hsg sg1 sg2
            go_wp2_with (first
              | (go_at_call 21; refine hdecw.mono ?_; rintro e w2 ⟨rfl, hb2⟩; have HB2 := Lib.hid hb2; clear hb2)
              | (go_at_call 22; refine (HE.out _ (HA.out.keep HB2.out hlt)).mono ?_; rintro e w3 ⟨rfl, h3, hb3⟩; obtain ⟨d0, d1, d2, d3, y0, y1, y2, y3⟩ := h3.at; have H3 := Lib.hid h3; have HB3 := Lib.hid hb3; clear h3 hb3))
            have hlt3 := H3.out.lt
            have hRu : IntKind.u8.wrap (R : Int) = (R : Int) := IntWalk.u8_in _ (by omega)
            have hconv : (convert 29 9 (.slice (some ⟨w3.heap.size, 0, none⟩) 1 1)).run Tryd.prog (w3.alloc (.cells #[.int .u8 (R : Int)] 5)).drew = .ok (.string (strL [(R : Nat).toUInt8])) (w3.alloc (.cells #[.int .u8 (R : Int)] 5)).drew := conv1 w3 R (by omega)
            have hcat : ∀ w : World, (Op.stringOp .add (strL (endS W).out) (strL [(R : Nat).toUInt8])).run Tryd.prog w = .ok (.string (strL ((endS W).out ++ [(R : Nat).toUInt8]))) w := fun w => cat_any _ _ (by simp; omega) w
            go_region
            have h4 := ((H3.out.set0 ((endS W).out ++ [(R : Nat).toUInt8])).alloc (.cells #[.int .u8 (R : Int)] 5)).drew
            have hb4 := ((((HBW.out.trans (HB2.out.mono hltp)).trans HB3.out).setCell (p := ⟨p, 0, none⟩) (Nat.le_refl _) (.string (strL ((endS W).out ++ [(R : Nat).toUInt8])))).alloc (by simp; omega) (.cells #[.int .u8 (R : Int)] 5)).drew
            simp only [Nat.toUInt8_eq] at h4 hb4 ⊢
            clear d0 d1 d2 d3 y0 y1 y2 y3 H3 HB3 hcat hconv
            generalize ((w3.setCell ⟨p, 0, none⟩ (.string (strL ((endS W).out ++ [UInt8.ofNat R])))).alloc (.cells #[.int .u8 (R : Int)] 5)).drew = w4 at *
            obtain ⟨d0, d1, d2, d3, y0, y1, y2, y3⟩ := h4.at
            have H4 := Lib.hid h4
            have HB4 := Lib.hid hb4
            clear h4 hb4
            go_wp2
            go_roundw
            case rel =>
              refine ⟨q, signS W R, rfl, ?_, HB4.out, HG.out.2, HF.out, by have := HG2.out; have := HQ.out; omega, by have := HQ.out; omega⟩
              rw [HG.out.1]
              exact H4.out
            case measure =>
              simp [RowKit.intOf]
              have := HQ.out
              omega
        | false =>
          clear hz1 hz2
          have HA := Lib.hid hA
          have hlt := hA.lt
          have hltp : p ≤ wr.heap.size := by omega
          clear hA
          have hsg : signS W R = farS W R := by
            unfold signS
            rw [if_neg (by rw [hpl]; decide)]
          obtain ⟨og1, og2, og3⟩ := openS_good hg
          obtain ⟨b, hb⟩ : ∃ b, W.inn = b := ⟨_, rfl⟩
          have hcatA : ∀ w : World, (Op.stringOp .add (strL W.out) ⟨#[38]⟩).run Tryd.prog w = .ok (.string (strL (W.out ++ [38]))) w := fun w => cat_any _ [38] (by simp; omega) w
          have hoi : (b = true → openS W = W) ∧ (b = false → openS W = { W with out := W.out ++ [38], inn := true }) := by
            rw [← hb]
            exact ⟨fun h => by simp [openS, h], fun h => by simp [openS, h]⟩
          obtain ⟨O, hO⟩ : ∃ O, openS W = O := ⟨_, rfl⟩
          have hfar : signS W R = if R < 65536 then putS O R else putS (putS O (55296 + (R - 65536) / 1024)) (56320 + (R - 65536) % 1024) := by rw [hsg, ← hO]; rfl
          rw [hO] at og1 og2 og3 hoi
          have hol3 : O.out.length + 3 ≤ 1000000 := by omega
          have hol6 : O.out.length + 7 ≤ 1000000 := by omega
          have HI := Lib.hid hb
          have HOI := Lib.hid hoi
          clear hb hoi hO hsg
          have hcase : R < 32 ∨ (32 ≤ R ∧ ¬ R ≤ 126) := by
            have : ¬ (32 ≤ R ∧ R ≤ 126) := by simpa [plainR] using hpl
            omega
          have hRw : IntKind.u32.wrap (R : Int) = (R : Int) := IntWalk.u32_in _ (by omega)
          have HG2 := Lib.hid sg2
          rcases hcase with h32 | ⟨h32, h126⟩
          · have hz1 := hn1 h32
            have hlow : R < 65536 := by omega
            have hz3 : decide ((65536 : Int) ≤ (R : Int)) = false := decide_eq_false (by omega)
            rw [if_pos hlow] at hfar
            have HG := Lib.hid (And.intro hfar sg1)
            have HZ3 := Lib.hid hz3
            clear hfar sg1 hn1 hn2 hpl sg2 hl9 hl3 hz3
            go_upto_if 61 with (go_at_call 21; refine hdecw.mono ?_; rintro e w2 ⟨rfl, hb2⟩; have h2 := HA.out.keep hb2 hlt; have HB2 := Lib.hid (hbw.trans (hb2.mono hltp)); clear hb2; obtain ⟨c0, c1, c2, c3, x0, x1, x2, x3⟩ := h2.at; rw [HI.out] at c3; have H2 := Lib.hid h2; clear h2)
            go_cut [5, 6] from 13 to 92 (fun i r wx => i = .int .i64 (q : Int) ∧ r = .int .i32 (R : Int) ∧ RAt wx p O ∧ Below p w1 wx)
            case first =>
              cases b with
              | true =>
                go_wp2
                go_meet
                exact ⟨rfl, rfl, by rw [HOI.out.1 (by first | rfl | trivial)]; exact H2.out, HB2.out⟩
              | false =>
                go_wp2
                go_meet
                exact ⟨rfl, rfl, by rw [HOI.out.2 (by first | rfl | trivial)]; exact (H2.out.set0 _).set3 true, (HB2.out.setCell (p := ⟨p, 0, none⟩) (Nat.le_refl _) _).setCell (p := ⟨p, 3, none⟩) (Nat.le_refl _) _⟩
            case rest =>
              obtain ⟨rfl, rfl, hAc, hbc⟩ := hcut
              have hz3 := HZ3.out
              have hput := rput_any p O R hlow wc hAc og1 hol3
              go_wp2_with (go_at_call 23; refine hput.mono ?_; rintro e w4 ⟨rfl, h4, hb4⟩)
              go_roundw
              case rel =>
                refine ⟨q, signS W R, rfl, ?_, hbc.trans hb4, HG.out.2, HF.out, by have := HG2.out; have := HQ.out; omega, by have := HQ.out; omega⟩
                rw [HG.out.1]
                exact h4
              case measure =>
                simp [RowKit.intOf]
                have := HQ.out
                omega
          · have hz1 : (32 : Int) ≤ (R : Int) := by omega
            have hz2 := hn2 h126
            by_cases hlow : R < 65536
            · have hz3 : decide ((65536 : Int) ≤ (R : Int)) = false := decide_eq_false (by omega)
              rw [if_pos hlow] at hfar
              have HG := Lib.hid (And.intro hfar sg1)
              have HZ3 := Lib.hid hz3
              clear hfar sg1 hn1 hn2 hpl sg2 hl9 hl3 hz3
              go_upto_if 61 with (go_at_call 21; refine hdecw.mono ?_; rintro e w2 ⟨rfl, hb2⟩; have h2 := HA.out.keep hb2 hlt; have HB2 := Lib.hid (hbw.trans (hb2.mono hltp)); clear hb2; obtain ⟨c0, c1, c2, c3, x0, x1, x2, x3⟩ := h2.at; rw [HI.out] at c3; have H2 := Lib.hid h2; clear h2)
              go_cut [5, 6] from 13 to 92 (fun i r wx => i = .int .i64 (q : Int) ∧ r = .int .i32 (R : Int) ∧ RAt wx p O ∧ Below p w1 wx)
              case first =>
                cases b with
                | true =>
                  go_wp2
                  go_meet
                  exact ⟨rfl, rfl, by rw [HOI.out.1 (by first | rfl | trivial)]; exact H2.out, HB2.out⟩
                | false =>
                  go_wp2
                  go_meet
                  exact ⟨rfl, rfl, by rw [HOI.out.2 (by first | rfl | trivial)]; exact (H2.out.set0 _).set3 true, (HB2.out.setCell (p := ⟨p, 0, none⟩) (Nat.le_refl _) _).setCell (p := ⟨p, 3, none⟩) (Nat.le_refl _) _⟩
              case rest =>
                obtain ⟨rfl, rfl, hAc, hbc⟩ := hcut
                have hz3 := HZ3.out
                have hput := rput_any p O R hlow wc hAc og1 hol3
                go_wp2_with (go_at_call 23; refine hput.mono ?_; rintro e w4 ⟨rfl, h4, hb4⟩)
                go_roundw
                case rel =>
                  refine ⟨q, signS W R, rfl, ?_, hbc.trans hb4, HG.out.2, HF.out, by have := HG2.out; have := HQ.out; omega, by have := HQ.out; omega⟩
                  rw [HG.out.1]
                  exact h4
                case measure =>
                  simp [RowKit.intOf]
                  have := HQ.out
                  omega
            · have hz3 : (65536 : Int) ≤ (R : Int) := by omega
              rw [if_neg hlow] at hfar
              obtain ⟨n, hn⟩ : ∃ n, R - 65536 = n := ⟨_, rfl⟩
              have hnl : n < 1048576 := by omega
              have hs1 : (R : Int) - 65536 = (n : Int) := by omega
              rw [hn] at hfar
              obtain ⟨q1, q2, q3⟩ := putS_good og1 og2 (55296 + n / 1024)
              have q4 : (putS O (55296 + n / 1024)).out.length + 3 ≤ 1000000 := by omega
              have hput : ∀ wc, RAt wc p O → ∀ z, z = ((55296 + n / 1024 : Nat) : Int) → Calls Tryd.prog 23 #[.pointer (some ⟨p, 0, none⟩), .int .u32 z] wc fun e w' => e = .returned (.tuple #[]) ∧ RAt w' p (putS O (55296 + n / 1024)) ∧ Below p wc w' := fun wc hAc z hz => by
                subst hz
                exact rput_any p O _ (by omega) wc hAc og1 hol3
              have hput2 : ∀ w2 z, z = ((56320 + n % 1024 : Nat) : Int) → RAt w2 p (putS O (55296 + n / 1024)) → Calls Tryd.prog 23 #[.pointer (some ⟨p, 0, none⟩), .int .u32 z] w2 fun e w' => e = .returned (.tuple #[]) ∧ RAt w' p (signS W R) ∧ Below p w2 w' := fun w2 z hz h2 => by
                subst hz
                rw [hfar]
                exact rput_any p _ _ (by omega) w2 h2 q1 q4
              obtain ⟨m, hm⟩ : ∃ m, n % 1024 = m := ⟨_, rfl⟩
              obtain ⟨d, hd⟩ : ∃ d, n / 1024 = d := ⟨_, rfl⟩
              obtain ⟨Y, hY⟩ : ∃ Y, putS O (55296 + n / 1024) = Y := ⟨_, rfl⟩
              have hw1 : IntKind.i32.wrap (n : Int) = (n : Int) := IntWalk.i32_in _ (by omega)
              have hw2 : IntKind.u32.wrap (n : Int) = (n : Int) := IntWalk.u32_in _ (by omega)
              have hdd : (n : Int) / 1024 = (d : Int) := by omega
              have hw3 : IntKind.u32.wrap (55296 + (d : Int)) = 55296 + (d : Int) := IntWalk.u32_in _ (by omega)
              have hband : bits .and .u32 (n : Int) 1023 = (m : Int) := by rw [mul1024 n hnl, hm]
              have hw4 : IntKind.u32.wrap (56320 + (m : Int)) = 56320 + (m : Int) := IntWalk.u32_in _ (by omega)
              rw [hY] at hput hput2
              rw [hd] at hput
              rw [hm] at hput2
              have P2 := Lib.hid hput2
              have hputh := Lib.hid hput
              have HG := Lib.hid (And.intro trivial sg1)
              clear hfar sg1 hn1 hn2 hpl sg2 hl9 hl3 hm hd hn hput2 hput hY q1 q2 q3 q4
              go_upto_if 61 with (go_at_call 21; refine hdecw.mono ?_; rintro e w2 ⟨rfl, hb2⟩; have h2 := HA.out.keep hb2 hlt; have HB2 := Lib.hid (hbw.trans (hb2.mono hltp)); clear hb2; obtain ⟨c0, c1, c2, c3, x0, x1, x2, x3⟩ := h2.at; rw [HI.out] at c3; have H2 := Lib.hid h2; clear h2)
              go_cut [5, 6] from 13 to 92 (fun i r wx => i = .int .i64 (q : Int) ∧ r = .int .i32 (R : Int) ∧ RAt wx p O ∧ Below p w1 wx)
              case first =>
                cases b with
                | true =>
                  go_wp2
                  go_meet
                  exact ⟨rfl, rfl, by rw [HOI.out.1 (by first | rfl | trivial)]; exact H2.out, HB2.out⟩
                | false =>
                  go_wp2
                  go_meet
                  exact ⟨rfl, rfl, by rw [HOI.out.2 (by first | rfl | trivial)]; exact (H2.out.set0 _).set3 true, (HB2.out.setCell (p := ⟨p, 0, none⟩) (Nat.le_refl _) _).setCell (p := ⟨p, 3, none⟩) (Nat.le_refl _) _⟩
              case rest =>
                obtain ⟨rfl, rfl, hAc, hbc⟩ := hcut
                have P1 := Lib.hid (hputh.out wc hAc)
                go_wp2_with (go_at_call 23; refine (P1.out _ (by omega)).mono ?_; rintro e w4 ⟨rfl, h4, hb4⟩; have H4 := Lib.hid h4; have HB4 := Lib.hid hb4; clear h4 hb4 P1)
                go_wp2_with (go_at_call 23; refine (P2.out _ _ (by omega) H4.out).mono ?_; rintro e w5 ⟨rfl, h5, hb5⟩)
                go_roundw
                case rel =>
                  refine ⟨q, signS W R, rfl, h5, (hbc.trans HB4.out).trans hb5, HG.out.2, HF.out, by have := HG2.out; have := HQ.out; omega, by have := HQ.out; omega⟩
                case measure =>
                  simp [RowKit.intOf]
                  have := HQ.out
                  omega
      · have hpz : ¬ ((pos : Int) < (s.size : Int)) := by omega
        have hd : s.data.toList.drop pos = [] := List.drop_eq_nil_of_le (by rw [← Lib.size_eq]; omega)
        rw [hd, runesD_nil, List.foldl_nil] at hf
        obtain ⟨e1, e2, e3⟩ := endS_good hg
        have hend := rend_any p W wr hA hg hl3
        have HB2 := Lib.hid hbw
        have HF := Lib.hid hf
        clear hbw hf hA hd
        go_wp2_with (go_at_call 22; refine hend.mono ?_; rintro e w3 ⟨rfl, h3, hb3⟩; obtain ⟨d0, d1, d2, d3, y0, y1, y2, y3⟩ := h3.at; have HF3 := Lib.hid hb3; clear h3 hb3)
        go_ret2
        refine ⟨?_, HB.out.trans ?_⟩
        · simp only [HF.out]; rfl
        · have h1 := HB2.out.trans HF3.out
          rw [← HS.out.2] at h1
          exact h1.mono hsz
end Go.Proofs.YtcddppgnmephnaaDoor
