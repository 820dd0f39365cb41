/-
  The program's reader, at every text.
-/
import Derived.Test.YtcddppgnmephnaaDoorCut1
namespace Go.Proofs.YtcddppgnmephnaaDoor
set_option linter.unusedVariables false
open Go.RowKit Go.Lib

/-- what read answers -/
def ReadE (l : List UInt8) (e : Ending) : Prop := ∃ t, e = .returned (.tuple #[.string t, .bool (readD l).isSome]) ∧ ∀ x, readD l = some x → t = strL x ∧ x.length ≤ 4 * l.length
theorem readE_none (l : List UInt8) (t : ByteArray) (h : readD l = none) : ReadE l (.returned (.tuple #[.string t, .bool false])) := by
  refine ⟨t, by rw [h]; rfl, fun x hx => ?_⟩
  rw [h] at hx
  cases hx
theorem readE_some (l o : List UInt8) (h : readD l = some o) (hl : o.length ≤ 4 * l.length) : ReadE l (.returned (.tuple #[.string (strL o), .bool true])) := by
  refine ⟨strL o, by rw [h]; rfl, fun x hx => ?_⟩
  rw [h] at hx
  cases hx
  exact ⟨rfl, hl⟩
theorem map_map_app (X : Option (List UInt8)) (o a : List UInt8) : (X.map (a ++ ·)).map (o ++ ·) = X.map ((o ++ a) ++ ·) := by
  cases X <;> simp

theorem far_no (code : List UInt8) (h : farD code = none) (hl : code.length ≤ 100000) (w : World) :
    Calls Tryd.prog 36 #[.string (strL code)] w fun e w' => (∃ t, e = .returned (.tuple #[.string t, .bool false])) ∧ Below w.heap.size w w' := by
  refine (fard_any (strL code) (by rw [strL_size]; exact hl) w).mono ?_
  rintro e w1 ⟨⟨t, rfl, _⟩, hb⟩
  have h' : farD (strL code).data.toList = none := h
  rw [h']
  exact ⟨⟨t, rfl⟩, hb⟩
theorem far_yes (code x : List UInt8) (h : farD code = some x) (hl : code.length ≤ 100000) (w : World) :
    Calls Tryd.prog 36 #[.string (strL code)] w fun e w' => e = .returned (.tuple #[.string (strL x), .bool true]) ∧ Below w.heap.size w w' ∧ x.length ≤ 4 * code.length := by
  refine (fard_any (strL code) (by rw [strL_size]; exact hl) w).mono ?_
  rintro e w1 ⟨⟨t, rfl, ht⟩, hb⟩
  have h' : farD (strL code).data.toList = some x := h
  obtain ⟨h1, h2⟩ := ht x h'
  rw [h', h1]
  exact ⟨rfl, hb, h2⟩

set_option maxHeartbeats 4000000 in
set_option maxRecDepth 100000 in
theorem read_any (l : List UInt8) (hl : l.length ≤ 20000) (w : World) :
    Calls Tryd.prog 24 #[.string (strL l)] w fun e w' => ReadE l e ∧ Below w.heap.size w w' := by
  obtain ⟨s0, hs0⟩ : ∃ s0, strL l = s0 := ⟨_, rfl⟩
  have HS0 := Lib.hid hs0
  rw [hs0]
  clear hs0
  go_enter Tryd.func24, Tryd.ntmps24
  go_wp2
  obtain ⟨p, hp⟩ : ∃ p, w.heap.size = p := ⟨_, rfl⟩
  have hI0 : IsBuilderF 33 5 p p (byteCells []) (w.alloc (.cells #[.pointer none, .slice none 0 0] 33)) := by rw [← hp]; exact IsBuilderF.of (Lib.fresh_isBuilder 33 5 w)
  have hB0 : Below p w (w.alloc (.cells #[.pointer none, .slice none 0 0] 33)) := (Below.refl _ _).alloc (by omega) _
  have hS0 : p < (w.alloc (.cells #[.pointer none, .slice none 0 0] 33)).heap.size := by simp; omega
  rw [hp]
  generalize w.alloc (.cells #[.pointer none, .slice none 0 0] 33) = w1 at *
  go_loopw [0] (fun s wr => ∃ rest o : List UInt8, s = .string (strL rest) ∧ IsBuilderF 33 5 p p (byteCells o) wr ∧ Below p w wr ∧ p < wr.heap.size ∧ readD l = (readD rest).map (o ++ ·) ∧ o.length + 4 * rest.length ≤ 4 * l.length) (fun s _ => match s with | .string x => x.size | _ => 0)
  case atStart =>
    exact ⟨l, [], by rw [HS0.out], hI0, hB0, hS0, by cases readD l <;> simp, by simp⟩
  case round =>
    obtain ⟨rest, o, rfl, hb, hbw, hsz, hrd, hlen⟩ := hrel
    clear hI0 hB0 hS0
    cases rest with
    | nil =>
      rw [readD_nil] at hrd
      have hst := Tryd.Builder_String_any_k p p o wr hb (by omega)
      have htl := strL_toList []
      obtain ⟨S, hS⟩ : ∃ S, strL [] = S := ⟨_, rfl⟩
      rw [hS] at htl ⊢
      have HB := Lib.hid hbw
      have HR := Lib.hid (show readD l = some o by rw [hrd]; simp)
      clear hb hbw hrd hS
      go_wp2_with (go_at_call 20; refine hst.mono ?_; rintro e w2 ⟨rfl, _, hb2, _⟩; have HB2 := Lib.hid hb2; clear hb2)
      go_ret2
      exact ⟨readE_some l o HR.out (by simpa using hlen), by rw [hp]; exact HB.out.trans HB2.out⟩
    | cons c cs =>
      simp only [List.length_cons] at hlen
      obtain ⟨x, hx⟩ : ∃ x, c.toNat = x := ⟨_, rfl⟩
      obtain ⟨n, hn⟩ : ∃ n, cs.length = n := ⟨_, rfl⟩
      obtain ⟨S, hS, hszn, hx0, htl, hcut⟩ : ∃ S, strL (c :: cs) = S ∧ S.size = n + 1 ∧ (∀ h : 0 < S.size, (S[0]'h).toNat = x) ∧ S.toList = c :: cs ∧ S.extract 1 (n + 1) = strL cs := by
        have e : (strL (c :: cs)).size = n + 1 := by rw [strL_size, List.length_cons, hn]
        refine ⟨_, rfl, e, fun h => ?_, strL_toList _, ?_⟩
        · rw [str_at _ 0 h]; exact hx
        · rw [← e]; exact strL_tail c _
      rw [hS]
      have hps : 0 < S.size := by omega
      have hx1 := hx0 hps
      have hone : (1 : Int) ≤ (n : Int) + 1 := by omega
      have HB := Lib.hid hbw
      have HC := Lib.hid hcut
      by_cases h38 : c = 38
      · have hx38 : ((x : Int) == 38) = true := by rw [← hx, h38]; rfl
        rw [h38, readD_and] at hrd
        have hcv := cut35 cs (by omega) wr
        unfold cutV at hcv
        cases hc : cutAt cs with
        | none =>
          rw [hc] at hcv hrd
          simp only at hcv
          have HR := Lib.hid (show readD l = none by rw [hrd]; rfl)
          rw [← hcut] at hcv
          clear hb hbw hrd hx hcut hS hx0 hn h38 hc
          go_wp2_with (go_at_call 35; refine hcv.mono ?_; rintro e w2 ⟨rfl, hb2⟩; have HB2 := Lib.hid hb2; clear hb2)
          go_ret2
          exact ⟨readE_none l _ HR.out, by rw [hp]; exact HB.out.trans (HB2.out.mono (by omega))⟩
        | some ab =>
          obtain ⟨code, rest⟩ := ab
          obtain ⟨_, hcs⟩ := cutAt_some cs code rest hc
          rw [hc] at hcv hrd
          simp only at hcv hrd
          rw [← hcut] at hcv
          have hlc : code.length + rest.length + 1 = n := by rw [← hn, hcs]; simp; omega
          have hlen2 : o.length + 4 * (n + 1) ≤ 4 * l.length := by rw [← hn]; omega
          obtain ⟨C, hC⟩ : ∃ C, strL code = C := ⟨_, rfl⟩
          have htlC : C.toList = code := by rw [← hC]; exact strL_toList _
          have HCC := Lib.hid (And.intro hC (And.intro hlc hlen2))
          have hlcode : code.length ≤ 20000 := by omega
          have hol : o.length + 4 * code.length ≤ 80000 := by omega
          have Hb := Lib.hid hb
          have HN := Lib.hid (And.intro hszn hn)
          have HM : (strL rest).size < S.size := by rw [strL_size, hszn]; omega
          rw [hC] at hcv
          obtain ⟨T, hT⟩ : ∃ T, strL rest = T := ⟨_, rfl⟩
          rw [hT] at hcv HM
          have HM' := Lib.hid (And.intro hT HM)
          have hbw2 : ∀ w2, Below wr.heap.size wr w2 → IsBuilderF 33 5 p p (byteCells o) w2 := fun w2 h => bldF_below hb h
          have HW := Lib.hid hbw2
          clear hb hbw hx hcut hS hx0 h38 hc hC hT hlc hlen2 HM hbw2 hcs
          by_cases hce : code = []
          · rw [if_pos hce] at hrd
            rw [hce] at htlC
            have HR := Lib.hid (show readD l = (readD rest).map ((o ++ [38]) ++ ·) by rw [hrd, ← map_map_app]; rfl)
            have hwb := fun w h => lwb_any p p (byteCells o) 38 w h (by rw [byteCells_length]; omega)
            have hbc : byteCells o ++ [.int .u8 38] = byteCells (o ++ [38]) := by rw [byteCells_append]; rfl
            rw [hbc] at hwb
            have HWB := Lib.hid hwb
            have HCE := Lib.hid hce
            clear hrd hwb hbc hce
            go_wp2_with (first
              | (go_at_call 35; refine hcv.mono ?_; rintro e w2 ⟨rfl, hb2⟩; have HB2 := Lib.hid hb2; clear hb2)
              | (go_at_call 33; refine (HWB.out _ (HW.out _ HB2.out)).mono ?_; rintro e w3 ⟨rfl, h3, hb3, ho3⟩; have H3 := Lib.hid h3; have HB3 := Lib.hid hb3; have hs3 := hb3.size; clear h3 hb3 ho3))
            have hsz2 := HB2.out.size
            refine ⟨⟨rest, o ++ [38], by rw [HM'.out.1], .inr H3.out, HB.out.trans ((HB2.out.mono (by omega)).trans HB3.out), by omega, HR.out, ?_⟩, HM'.out.2⟩
            have h1 := HCC.out.2
            simp only [List.length_append, List.length_singleton]
            omega
          · rw [if_neg hce] at hrd
            cases hfd : farD code with
            | none =>
              rw [hfd] at hrd
              have HR := Lib.hid (show readD l = none by rw [hrd]; rfl)
              have hfar := fun w => far_no code hfd (by omega) w
              rw [HCC.out.1] at hfar
              have HFAR := Lib.hid hfar
              have HCO := Lib.hid hfd
              clear hrd hfar hfd
              obtain ⟨d, ds, hds⟩ := List.exists_cons_of_ne_nil hce
              rw [hds] at htlC
              have HDS := Lib.hid hds
              clear hds hce
              go_wp2_with (first
                | (go_at_call 35; refine hcv.mono ?_; rintro e w2 ⟨rfl, hb2⟩; have HB2 := Lib.hid hb2; clear hb2)
                | (go_at_call 36; refine (HFAR.out _).mono ?_; rintro e w3 ⟨⟨t3, rfl⟩, hb3⟩; have HB3 := Lib.hid hb3; clear hb3))
              have hsz2 := HB2.out.size
              go_ret2
              exact ⟨readE_none l _ HR.out, by rw [hp]; exact HB.out.trans ((HB2.out.mono (by omega)).trans (HB3.out.mono (by omega)))⟩
            | some x2 =>
              rw [hfd] at hrd
              have HR := Lib.hid (show readD l = (readD rest).map ((o ++ x2) ++ ·) by rw [hrd, ← map_map_app])
              have hfar := fun w => far_yes code x2 hfd (by omega) w
              rw [HCC.out.1] at hfar
              have HFAR := Lib.hid hfar
              have hws := fun w h (hxl : x2.length ≤ 4 * code.length) => lws_any p p (byteCells o) (strL x2) w h (by rw [byteCells_length, strL_size]; omega)
              rw [Lib.strCells_eq, show (strL x2).data.toList = x2 from rfl, ← byteCells_append] at hws
              obtain ⟨X2, hX2⟩ : ∃ X2, strL x2 = X2 := ⟨_, rfl⟩
              rw [hX2] at hws HFAR
              have HWS := Lib.hid hws
              have HCO := Lib.hid (And.intro hfd hX2)
              clear hrd hfar hfd hws hX2
              obtain ⟨d, ds, hds⟩ := List.exists_cons_of_ne_nil hce
              rw [hds] at htlC
              have HDS := Lib.hid hds
              clear hds hce
              go_wp2_with (first
                | (go_at_call 35; refine hcv.mono ?_; rintro e w2 ⟨rfl, hb2⟩; have HB2 := Lib.hid hb2; clear hb2)
                | (go_at_call 36; refine (HFAR.out _).mono ?_; rintro e w3 ⟨rfl, hb3, hx3⟩; have HB3 := Lib.hid hb3; clear hb3)
                | (go_at_call 37; refine (HWS.out _ (bldF_below (HW.out _ HB2.out) HB3.out) hx3).mono ?_; rintro e w4 ⟨⟨x4, rfl⟩, h4, hb4, ho4⟩; have H4 := Lib.hid h4; have HB4 := Lib.hid hb4; have hs4 := hb4.size; clear h4 hb4 ho4))
              have hsz2 := HB2.out.size
              have hsz3 := HB3.out.size
              refine ⟨⟨rest, o ++ x2, by rw [HM'.out.1], .inr H4.out, HB.out.trans ((HB2.out.mono (by omega)).trans ((HB3.out.mono (by omega)).trans HB4.out)), by omega, HR.out, ?_⟩, HM'.out.2⟩
              have h1 := HCC.out.2
              simp only [List.length_append]
              omega
      · rw [readD_plain c cs h38] at hrd
        have hx38 : ((x : Int) == 38) = false := by
          have : x ≠ 38 := fun e => h38 (UInt8.toNat_inj.1 (by rw [hx, e]; rfl))
          simp; omega
        have hwb := lwb_any p p (byteCells o) (x : Int) wr hb (by rw [byteCells_length]; omega)
        have hbc : byteCells o ++ [.int .u8 (x : Int)] = byteCells (o ++ [c]) := by rw [byteCells_append, ← hx]; rfl
        rw [hbc] at hwb
        have HR := Lib.hid (show readD l = (readD cs).map ((o ++ [c]) ++ ·) by rw [hrd, ← map_map_app]; rfl)
        have HN := Lib.hid (And.intro hszn hn)
        clear hb hbw hrd hx hbc hcut hS hx0 hn h38
        go_wp2_with (go_at_call 33; refine hwb.mono ?_; rintro e w2 ⟨rfl, h2, hb2, ho2⟩; have H2 := Lib.hid h2; have HB2 := Lib.hid hb2; have hs2 := hb2.size; clear h2 hb2 ho2)
        refine ⟨⟨cs, o ++ [c], by rw [HC.out], .inr H2.out, HB.out.trans HB2.out, by omega, HR.out, by simp; omega⟩, ?_⟩
        show (S.extract 1 (n + 1)).size < S.size
        rw [HC.out, strL_size, HN.out.2, HN.out.1]
        omega
end Go.Proofs.YtcddppgnmephnaaDoor
