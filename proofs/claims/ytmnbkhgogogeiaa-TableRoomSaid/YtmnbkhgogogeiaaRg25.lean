/-
  Several texts of one proof, each in a section of its own: Opn, Cpy, Scn, Range.
-/
import Derived.Test.YtmnbkhgogogeiaaRg19
import Derived.RangeFuncNested
import Derived.RangeFuncBound
import Derived.RangeFuncCalls
import Derived.RangeFuncLeaves
import Derived.Shelf.Abstract
import Derived.Shelf.RegionOpen
import Derived.WalkKit
import Derived.OwnWalkIn
import Derived.TacticsInMore
import Derived.LoopNIn
import Derived.LoopIn
namespace Go.Proofs.Ytmnbkhgogogeiaa
section
set_option linter.unusedVariables false
open Go.RowKit

set_option maxRecDepth 100000 in
set_option maxHeartbeats 4000000 in
theorem topen_fresh {B : Nat} {w0 w : World} {pd n : Nat} {kv : Value} (h : Held B w0 w pd kv (List.replicate n (zeros 64)) [] 0 false) (hn : 3 ≤ n) (hn2 : n ≤ 65536) :
    Calls Try.prog 8 #[.pointer (some ⟨pd, 0, none⟩)] w fun e w' => ∃ pt pl, e = .returned (.tuple #[.pointer (some ⟨pt, 0, none⟩), .int .i64 0]) ∧ Tb B w0 w' pt pl pd kv (n - 2) 0 n [] ∧ Below w.heap.size w w' := by
  have HOP := Lib.hid (open_fresh h hn hn2)
  have HFF := Lib.hid (Fit.fresh n hn hn2)
  have HN : Hid (3 ≤ n ∧ n ≤ 65536 ∧ B ≤ w.heap.size) := Lib.hid ⟨hn, hn2, Nat.le_trans h.base h.below.size⟩
  clear h hn hn2
  go_enter Try.func8, Try.ntmps8
  go_wp2_with fail
  refine HOP.out.mono ?_
  rintro e w1 ⟨pl, rfl, hl1, -, hb1⟩
  have HL1 := Lib.hid hl1
  have HB1 := Lib.hid hb1
  have HSZ : Hid (Calls Try.prog 26 #[.pointer (some ⟨pd, 0, none⟩)] w1 fun e w' => e = .returned (.int .i64 (n : Nat)) ∧ w1 = w') := Lib.hid (by
    obtain ⟨wv, mv, hdk, _⟩ := hl1.disk.dk
    have := size_ok hdk
    rwa [List.length_replicate] at this)
  clear hl1 hb1
  go_upto_region 5 with (first | (go_at_call 26; refine HSZ.out.mono ?_; rintro e w' ⟨rfl, rfl⟩))
  have HX := Lib.hid (heap_alloc_new w1 (.cells #[.pointer (some ⟨pl, 0, none⟩), .int .i64 (n : Nat), .int .i64 0, .slice none 0 0] 68))
  have hA : Below w1.heap.size w1 (w1.alloc (.cells #[.pointer (some ⟨pl, 0, none⟩), .int .i64 (n : Nat), .int .i64 0, .slice none 0 0] 68)) := (Below.refl _ _).alloc (Nat.le_refl _) _
  have HL2 := Lib.hid (HL1.out.below hA)
  have HB2 := Lib.hid (HB1.out.trans (hA.mono HB1.out.size))
  have HPT : Hid (w.heap.size ≤ w1.heap.size) := Lib.hid HB1.out.size
  clear hA
  generalize w1.alloc (.cells #[.pointer (some ⟨pl, 0, none⟩), .int .i64 (n : Nat), .int .i64 0, .slice none 0 0] 68) = w2 at *
  generalize w1.heap.size = pt at *
  have HRC := Lib.hid (HL2.out.records (Nat.zero_le _) (fun x hx => by cases hx))
  go_wp2_with (first | (go_at_call 27; refine HRC.out.mono ?_; rintro e w3 ⟨o, M, rfl, hm, hmd, hb3⟩
                        have HB3 := Lib.hid hb3
                        obtain ⟨oa, oc, ho⟩ := own_shape hm.row
                        have hM0 : M.length = 0 := by have := congrArg List.length hmd; simpa [frS] using this
                        rw [hM0] at ho
                        subst ho
                        clear hm hmd hb3 hM0))
  go_loopw [27] (fun i wr => i = .int .i64 0 ∧ wr = w3) (fun i _ => 0)
  case atStart => exact ⟨rfl, rfl⟩
  case round =>
    obtain ⟨rfl, rfl⟩ := hrel
    rename World => w3
    go_wp2_with fail
    refine bodyPost_ret (v := .tuple #[.pointer (some ⟨pt, 0, none⟩), .int .i64 0]) (by simp [results, Try.results8, go_sem]) rfl ?_
    have htv : TbV w2 pt (.pointer (some ⟨pl, 0, none⟩)) n 0 (.slice none 0 0) := HX.out
    refine ⟨pt, pl, rfl, ⟨⟨_, _, _, HL2.out.below HB3.out, HFF.out, rfl, Nat.zero_le _, Nat.le_refl _, Nat.zero_le _, Nat.zero_le _⟩, ⟨0, _, [], htv.below HB3.out, Nat.zero_le _, ⟨World.ownsRow_nil _ _ _ _, fun _ h => by cases h⟩, rfl⟩, Nat.le_trans HN.out.2.2 HPT.out, Nat.zero_le _⟩, HB2.out.trans (HB3.out.mono HB2.out.size)⟩

theorem Tb.parts {B : Nat} {w0 w : World} {pt pl pd : Nat} {kv : Value} {ring u sec : Nat} {P : List (List Nat × List Nat)} (h : Tb B w0 w pt pl pd kv ring u sec P) :
    ∃ cost pv, TbV w pt (.pointer (some ⟨pl, 0, none⟩)) sec cost pv ∧ PairV w pv P := by
  obtain ⟨_, ⟨cost, pv, L, ht, _, hr, hm⟩, _⟩ := h
  exact ⟨cost, pv, ht, by rw [← hm]; exact hr.pairV⟩
set_option maxRecDepth 100000 in
set_option maxHeartbeats 4000000 in
theorem len_any {B : Nat} {w0 w : World} {pt pl pd : Nat} {kv : Value} {ring u sec : Nat} {P : List (List Nat × List Nat)} (h : Tb B w0 w pt pl pd kv ring u sec P) :
    Calls Try.prog 22 #[.pointer (some ⟨pt, 0, none⟩)] w fun e w' => e = .returned (.int .i64 (P.length : Nat)) ∧ w = w' := by
  obtain ⟨cost, pv, ht, a, cap, rfl, -⟩ := h.parts
  obtain ⟨-, -, -, t3⟩ := ht.cells
  clear h ht
  go_enter Try.func22, Try.ntmps22
  go_wp2_with fail
  go_ret
  exact ⟨rfl, rfl⟩
set_option maxRecDepth 100000 in
set_option maxHeartbeats 4000000 in
theorem get_yes {B : Nat} {w0 w : World} {pt pl pd : Nat} {kv : Value} {ring u sec : Nat} {P : List (List Nat × List Nat)} (h : Tb B w0 w pt pl pd kv ring u sec P) {vk : Value} {key : List Nat} (hk : RowB w vk key) (hP : P.length ≤ 10000)
    (c : Nat) {val : List Nat} (hx : P[c]? = some (key, val)) (hm : ∀ i (h : i < P.length), decide (0 ≤ cmpL P[i].1 key) = decide (c ≤ i)) (hl : val.length ≤ 1000000) :
    Calls Try.prog 17 #[.pointer (some ⟨pt, 0, none⟩), vk] w fun e w' => ∃ o, e = .returned (.tuple #[o, .bool true]) ∧ OwnB w' w.heap.size o val ∧ Below w.heap.size w w' := by
  obtain ⟨cost, pv, ht, hv⟩ := h.parts
  obtain ⟨hc, hx2⟩ := List.getElem?_eq_some_iff.1 hx
  have HPL := Lib.hid (place_any ht hv hk (by omega) c (Nat.le_of_lt hc) hm)
  have hd : decide (P[c]?.map (·.1) = some key) = true := by
    rw [hx]
    simp
  rw [hd] at HPL
  have HT := Lib.hid ht
  have HV := Lib.hid hv
  obtain ⟨sa, sl, sc, rfl, -⟩ := id hk
  have hcz : (c : Int) < (P.length : Int) := by omega
  have HC := Lib.hid hc
  have HX := Lib.hid hx2
  have HLV := Lib.hid hl
  obtain ⟨a, cap, rfl, -, -, -⟩ := id hv
  clear h ht hv hk hm hd hx hl
  have HCC := Lib.hid (show ∀ (h : c < P.length), P[c] = (key, val) from fun _ => hx2)
  clear HX hx2 hc
  go_enter Try.func17, Try.ntmps17
  go_upto_region 6 with (first | (go_at_call 36; refine HPL.out.mono ?_; rintro e w1 ⟨rfl, hb1⟩; have HB1 := Lib.hid hb1; clear hb1))
  obtain ⟨a2, cap2, e, -, -, h3⟩ := HV.out.below HB1.out
  obtain ⟨rfl, -, rfl⟩ := Value.slice.inj e
  obtain ⟨g, rfl, hcell⟩ : ∃ g, a = some ⟨g, 0, none⟩ ∧ ∀ i (h : i < P.length), ∃ ka kl kc va vl vc,
      w1.cell? ⟨g, i * 2, none⟩ = some (.slice ka kl kc) ∧ w1.cell? ⟨g, i * 2 + 1, none⟩ = some (.slice va vl vc) ∧ RowB w1 (.slice ka kl kc) P[i].1 ∧ RowB w1 (.slice va vl vc) P[i].2 := by
    rcases h3 with h3 | h3
    · have := HC.out; rw [h3] at this; simp at this
    · exact h3
  obtain ⟨ka, kl, kc, va, vl, vc, -, c1, -, r2⟩ := hcell c HC.out
  rw [HCC.out HC.out] at r2
  obtain ⟨-, -, -, t3⟩ := (HT.out.below HB1.out).cells
  have HCL := Lib.hid (bclone_any _ _ w1 r2 (Nat.le_trans HLV.out (by decide)))
  clear h3 hcell e r2
  go_wp2_with (first | (go_at_call 37; refine HCL.out.mono ?_; rintro e w2 ⟨o, rfl, ho, hb2⟩; obtain ⟨oa, oc, rfl⟩ := ho.shape; have HO := Lib.hid ho; have HB2 := Lib.hid hb2; clear ho hb2))
  exact bodyPost_ret (v := .tuple #[.slice oa _ oc, .bool true]) (by simp [results, Try.results17, go_sem]) rfl ⟨_, rfl, owns_mono HO.out HB1.out.size, HB1.out.trans (HB2.out.mono HB1.out.size)⟩
set_option maxRecDepth 100000 in
set_option maxHeartbeats 4000000 in
theorem get_no {B : Nat} {w0 w : World} {pt pl pd : Nat} {kv : Value} {ring u sec : Nat} {P : List (List Nat × List Nat)} (h : Tb B w0 w pt pl pd kv ring u sec P) {vk : Value} {key : List Nat} (hk : RowB w vk key) (hP : P.length ≤ 10000)
    (c : Nat) (hc : c ≤ P.length) (hm : ∀ i (h : i < P.length), decide (0 ≤ cmpL P[i].1 key) = decide (c ≤ i)) (he : decide (P[c]?.map (·.1) = some key) = false) :
    Calls Try.prog 17 #[.pointer (some ⟨pt, 0, none⟩), vk] w fun e w' => e = .returned (.tuple #[.slice none 0 0, .bool false]) ∧ Below w.heap.size w w' := by
  obtain ⟨cost, pv, ht, hv⟩ := h.parts
  have HPL := Lib.hid (place_any ht hv hk (by omega) c hc hm)
  rw [he] at HPL
  obtain ⟨sa, sl, sc, rfl, -⟩ := id hk
  clear h ht hv hk hm he hc
  go_enter Try.func17, Try.ntmps17
  go_wp2_with (first | (go_at_call 36; refine HPL.out.mono ?_; rintro e w1 ⟨rfl, hb1⟩; have HB1 := Lib.hid hb1; clear hb1))
  exact bodyPost_ret (v := .tuple #[.slice none 0 0, .bool false]) (by simp [results, Try.results17, go_sem]) rfl ⟨rfl, HB1.out⟩
end
section
set_option linter.unusedVariables false
open Go.RowKit

set_option maxRecDepth 100000 in
set_option maxHeartbeats 4000000 in
theorem cbytes_any {w : World} {v : Value} {l : List Nat} (h : RowB w v l) (hl : l.length ≤ 1000000) : Calls Try.prog 19 #[v] w fun e w' => ∃ o, e = .returned o ∧ OwnB w' w.heap.size o l ∧ Below w.heap.size w w' := by
  have HH := Lib.hid h
  obtain ⟨a, n, c, rfl, -⟩ := h
  go_enter Try.func19, Try.ntmps19
  go_wp2_with (at_builtin; refine appR (v := .slice none 0 0) (l := []) rfl (.const (.slice none 0 0)) (.tmp 3) rfl (World.ownsRow_nil _ _ _ _) HH.out (Below.refl _ _) (Nat.le_refl _) rfl rfl (by simp; omega) ?_)
  intro ao co n D w2 hD ho hb _
  have HD := Lib.hid hD.out.1
  have HO : Hid (OwnB w2 w.heap.size (.slice ao n co) D) := Lib.hid ho
  have HB := Lib.hid hb
  clear hD ho hb
  go_wp2_with fail
  go_ret
  have hl2 := HO.out
  rw [HD.out] at hl2
  exact ⟨_, rfl, hl2, HB.out⟩
set_option maxRecDepth 100000 in
set_option maxHeartbeats 4000000 in
theorem spoil_any {w : World} {B : Nat} {v : Value} {L : List Nat} (ho : OwnB w B v L) (hL : L.length ≤ 1000000) :
    Calls Try.prog 18 #[v] w fun e w' => e = .returned (.tuple #[]) ∧ Beside (fun k => v.ownBlock = some k) w w' := by
  obtain ⟨oa, c, e⟩ := ho.shape
  subst e
  by_cases h0 : L.length = 0
  · obtain rfl := List.eq_nil_of_length_eq_zero h0
    clear ho
    go_enter Try.func18, Try.ntmps18
    go_wp2_with fail
    go_loopw [2] (fun i wr => i = .int .i64 0 ∧ wr = w) (fun _ _ => 0)
    case atStart => exact ⟨rfl, rfl⟩
    case round =>
      obtain ⟨rfl, rfl⟩ := hrel
      go_wp2_with fail
      exact bodyPost_end (v := .tuple #[]) (by simp [results, Try.results18, go_sem]) rfl ⟨rfl, Beside.refl _ _⟩
  · obtain ⟨g, cap, e, -, -⟩ := ho.some (by omega)
    obtain ⟨rfl, -, rfl⟩ := Value.slice.inj e
    have HO := Lib.hid ho
    have HL := Lib.hid hL
    clear ho e h0 hL
    obtain ⟨n, hn⟩ : ∃ n, L.length = n := ⟨_, rfl⟩
    rw [hn] at HO
    rw [hn]
    have HN := Lib.hid hn
    clear hn
    have hn1 : n ≤ 1000000 := by have := HL.out; have := HN.out; omega
    go_enter Try.func18, Try.ntmps18
    go_wp2_with fail
    go_loopw [2] (fun i wr => ∃ (p : Nat) (M : List Nat), p ≤ n ∧ i = .int .i64 (p : Int) ∧ M.length = n ∧ OwnB wr B (.slice (some ⟨g, 0, none⟩) n c) M ∧ Beside (fun k => k = g) w wr) (fun i _ => n - (RowKit.intOf i).toNat)
    case atStart => exact ⟨0, L, Nat.zero_le _, rfl, HN.out, HO.out, Beside.refl _ _⟩
    case round =>
      obtain ⟨p, M, hp, rfl, hM, hown, hbes⟩ := hrel
      by_cases hlt : p < n
      · have hpM : p < M.length := by omega
        have hcell := hown.cell hM.symm p hpM
        have hfree := hown.free hM.symm p
        have HO1 := Lib.hid hown
        have HB := Lib.hid hbes
        have HM := Lib.hid hM
        have hpi : (p : Int) < (n : Int) := by omega
        have HP := Lib.hid hlt
        clear hown hbes hM hlt hp
        generalize M[p] = x at *
        obtain ⟨m, hbx⟩ := bits_xor x
        have HS := Lib.hid (HO1.out.set HM.out.symm p m)
        have HT := Lib.hid (HB.out.setCell (p := ⟨g, p, none⟩) (.inl rfl) (.int .u8 (m : Nat)))
        go_wp2_with fail
        go_roundw
        case rel => exact ⟨p + 1, M.set p m, HP.out, by go_num, by rw [List.length_set]; exact HM.out, by first | exact HS.out | (rw [hbx]; exact HS.out), by first | exact HT.out | (rw [hbx]; exact HT.out)⟩
        case measure => simp [intOf]; omega
      · have hpi : ¬ (p : Int) < (n : Int) := by omega
        have HB := Lib.hid hbes
        clear hown hbes
        go_wp2_with fail
        refine bodyPost_end (v := .tuple #[]) (by simp [results, Try.results18, go_sem]) rfl ⟨rfl, HB.out.mono (fun k _ e => by rw [e]; rfl)⟩
end
section
set_option linter.unusedVariables false
open Go.RowKit

set_option maxRecDepth 100000 in
set_option maxHeartbeats 4000000 in
theorem pclone_any {w : World} {B : Nat} {pv : Value} {L : List Pr} (h : PairR w B pv L) (h0 : 0 < L.length) (hL : L.length ≤ 100000) :
    Calls Try.prog 38 #[pv] w fun e w' => ∃ o, e = .returned o ∧ w'.ownsRow w.heap.size 79 2 o L.length (prC L) ∧ Below w.heap.size w w' := by
  obtain ⟨i0, hi, hz0, hz1, hz2⟩ := info_parts Try.info79
  have one : ∀ u ∈ prC L, u.oneCell' = true := by
    intro u hu
    obtain ⟨x, hx, hu⟩ := List.mem_flatMap.1 hu
    obtain ⟨o1, o2, -⟩ := h.own x hx
    obtain ⟨a1, c1, e1⟩ := o1.shape
    obtain ⟨a2, c2, e2⟩ := o2.shape
    simp only [Pr.cells, List.mem_cons, List.not_mem_nil, or_false] at hu
    rcases hu with rfl | rfl
    · rw [e1]; rfl
    · rw [e2]; rfl
  rcases h.row.2 with ⟨e, h1⟩ | ⟨g, cap, cur, rfl, hb, hh, hc, hmx, hs, ht⟩
  · omega
  have he := fun (w : World) => Lib.run_eql_slice_nil (P := Try.prog) w 66 79 (some ⟨g, 0, none⟩) L.length cap 0 0 Try.underlying66
  have hown0 := World.ownsRow_lit (base := w.heap.size) (e := 79) (size := 2) w #[] 0 (Nat.le_refl _) (by decide) rfl
  have hlen : (prC L).length = L.length * 2 := prC_length L
  have hnews : ∀ j u, (prC L)[j]? = some u → (w.alloc (.cells #[] 79)).cell? ((⟨g, 0, none⟩ : Addr).add j) = some u := by
    intro j u hj
    have hjl : j < L.length * 2 := by have := (List.getElem?_eq_some_iff.1 hj).1; omega
    have hx : w.cell? ⟨g, j, none⟩ = some u := by
      rw [cell_of_row _ _ _ _ 79 (0, 0) hh]
      have : cur.toList[j]? = some u := by
        rw [← ht, List.getElem?_take_of_lt hjl] at hj
        exact hj
      simpa using this
    have e : (⟨g, 0, none⟩ : Addr).add j = ⟨g, j, none⟩ := by simp [go_sem]
    rw [e, Below.cell ((Below.refl w.heap.size w).alloc (Nat.le_refl _) _) (World.block_lt_of_cell? w _ hx)]
    exact hx
  have HN := Lib.hid hnews
  have HLN := Lib.hid hlen
  clear h hh ht hs hnews hlen hb
  obtain ⟨xs, hxs⟩ : ∃ xs, prC L = xs := ⟨_, rfl⟩
  rw [hxs] at HN HLN one
  rw [hxs]
  clear hxs
  generalize L.length = n at *
  go_enter Try.func38, Try.ntmps38
  go_wp2_with (at_builtin; go_loud (refine wpList_append_own _ rfl (.tmp 5) (.tmp 6) 66 rfl (w.heap.size) 79 i0 _ 2 48 Try.underlying66 hi hz0 hz1 hz2 rfl (by decide) _ _ _ rfl hown0 ⟨g, 0, none⟩ n cap xs rfl HLN.out HN.out one (by simp [maxLen]; omega) (by simp; omega) (by simp) ?_))
  intro o w1 ho hgr _
  have HO := Lib.hid ho
  have HG := Lib.hid hgr
  clear ho hgr
  go_wp2_with fail
  go_ret
  refine ⟨_, rfl, ?_, ?_⟩
  · simpa using HO.out
  · exact ((Below.refl _ _).alloc (Nat.le_refl _) _).grown HG.out (by simp) (by intro k hk; simp [Value.ownBlock] at hk; omega)
theorem cmpL_nil (l : List Nat) : 0 ≤ cmpL l [] := by
  cases l <;> simp [cmpL]

set_option maxRecDepth 100000 in
set_option maxHeartbeats 4000000 in
theorem scan_any {w : World} {B pt : Nat} {lv : Value} {sec cost : Nat} {pv : Value} {L : List Pr} (ht : TbV w pt lv sec cost pv) (hr : PairR w B pv L) (h0 : 0 < L.length) (hL : L.length ≤ 100000) :
    Calls Try.prog 21 #[.pointer (some ⟨pt, 0, none⟩), .slice none 0 0, .slice none 0 0] w fun e w' => ∃ b o, e = .returned (.func (.func 39) #[] #[.pointer (some ⟨b, 0, none⟩)]) ∧ w'.heap[b]? = some (.cells #[o] 66 (0, 0)) ∧ w'.ownsRow w.heap.size 79 2 o L.length (prC L) ∧ w.heap.size ≤ b ∧ Below w.heap.size w w' := by
  have hbx : Below w.heap.size w (w.alloc (.cells #[.slice none 0 0] 66)) := (Below.refl _ _).alloc (Nat.le_refl _) _
  have HX := Lib.hid (heap_alloc_new w (.cells #[.slice none 0 0] 66))
  have HT1 := Lib.hid (ht.below hbx)
  have HR1 := Lib.hid (hr.below hbx)
  have HB1 := Lib.hid hbx
  have HS1 : Hid (w.heap.size < (w.alloc (.cells #[.slice none 0 0] 66)).heap.size) := Lib.hid (by simp)
  have HP : Hid (Calls Try.prog 36 #[.pointer (some ⟨pt, 0, none⟩), .slice none 0 0] (w.alloc (.cells #[.slice none 0 0] 66)) fun e w' => e = .returned (.tuple #[.int .i64 (0 : Nat), .bool (decide ((L.map Pr.of)[0]?.map (·.1) = some []))]) ∧ Below (w.alloc (.cells #[.slice none 0 0] 66)).heap.size (w.alloc (.cells #[.slice none 0 0] 66)) w') := Lib.hid (place_any HT1.out HR1.out.pairV (rowB_nil _) (by rw [List.length_map]; omega) 0 (Nat.zero_le _) (fun i hi => by rw [decide_eq_true (cmpL_nil _), decide_eq_true (Nat.zero_le _)]))
  have HL := Lib.hid (And.intro h0 hL)
  clear hbx ht hr h0 hL
  go_enter Try.func21, Try.ntmps21
  go_upto_region 3 with (fail)
  generalize w.alloc (.cells #[.slice none 0 0] 66) = w1 at *
  generalize decide ((L.map Pr.of)[0]?.map (·.1) = some []) = z at *
  go_upto_region 4 with (first | (go_at_call 36; refine HP.out.mono ?_; rintro e w2 ⟨rfl, hb2⟩; have HB2 := Lib.hid hb2; clear hb2))
  have HR2 := Lib.hid (HR1.out.below HB2.out)
  obtain ⟨-, -, -, t3⟩ := (HT1.out.below HB2.out).cells
  obtain ⟨pa, pc, rfl⟩ := own_shape HR2.out.row
  have hcap : L.length ≤ pc := by
    rcases HR2.out.row.2 with ⟨e, h1⟩ | ⟨g, cap, cur, e, hb, hh, hc, hmx, hs, htt⟩
    · have := HL.out.1; omega
    · obtain ⟨-, -, rfl⟩ := Value.slice.inj e
      exact hc
  have HC := Lib.hid (pclone_any HR2.out HL.out.1 HL.out.2)
  have hl := HL.out
  clear HR2
  have hnz : (L.length : Int) ≤ (pc : Int) := by omega
  have hmx : max (0 : Int) (L.length : Int) = (L.length : Int) := by omega
  have fin : ∀ w3 oa oc, Below w2.heap.size w2 w3 → w3.ownsRow w2.heap.size 79 2 (.slice oa L.length oc) L.length (prC L) → Boxed w3 w.heap.size 66 (.slice none 0 0) := fun w3 oa oc hb3 ho =>
    (hb3.block _ (Nat.lt_of_lt_of_le HS1.out HB2.out.size)).trans ((HB2.out.block _ HS1.out).trans HX.out)
  have FIN := Lib.hid fin
  clear fin
  go_upto_region 8 with (first | (go_at_call 38; refine HC.out.mono ?_; rintro e w3 ⟨o, rfl, ho, hb3⟩; obtain ⟨oa, oc, rfl⟩ := own_shape ho; have hbx := FIN.out w3 oa oc hb3 ho; have hcx := hbx.cell; have hfx := hbx.frozen; have HBX := Lib.hid hbx; have HO := Lib.hid ho; have HB3 := Lib.hid hb3; clear ho hb3 hbx))
  go_wp2_with fail
  go_ret
  refine ⟨w.heap.size, _, rfl, Boxed.set _ HBX.out, ?_, Nat.le_refl _, ?_⟩
  · exact rows_mono (ownsRow_setCell_below HO.out (a := ⟨w.heap.size, 0, none⟩) (Nat.lt_of_lt_of_le HS1.out HB2.out.size) _) (Nat.le_trans HB1.out.size HB2.out.size)
  · exact (HB1.out.trans ((HB2.out.trans (HB3.out.mono HB2.out.size)).mono HB1.out.size)).setCell (p := ⟨w.heap.size, 0, none⟩) (Nat.le_refl _) _
end
section
open Go Go.RowKit

/-- what turns of block B do not hurt -/
def Turns {β : Type} (B : Nat) (J : β → World → Prop) : Prop := ∀ s W W', J s W → W.grownBy W' (some B) → J s W'

/-- the iterator's contract: the elements are xs; Kp is what a round that goes on must keep; St is what the iterator wants of the world in which it is called -/
def SeqOn {α : Type} (F : Fence) (n : Nat) (P : Program) (g : Nat) (lb : Array Value) (encs : α → Array Value) (B : Nat) (Kp : World → World → Prop) (xs : List α) (St : World → Prop) : Prop :=
  ∀ (l : Nat) (J Jx : List α → World → Prop) (W : World), St W → Turns B J → Turns B Jx →
    (∀ pre x rest W1, xs = pre ++ x :: rest → J pre W1 → YieldAt F (n - 1) P l (encs x) W1 fun e W' =>
      (e = .returned (.bool true) ∧ J (pre ++ [x]) W' ∧ Kp W1 W') ∨ (e = .returned (.bool false) ∧ Jx (pre ++ [x]) W')) →
    J [] W →
    CallsIn F n P g (#[.func (.yield l) #[] #[]] ++ lb) W fun e W' => (∃ v, e = .returned v) ∧ (J xs W' ∨ ∃ pre, pre <+: xs ∧ Jx pre W')

/-- the loop's record and the block for deferred calls, where the loop has laid them -/
def Book (W : World) (D : Nat) (r : Loop) : Prop := W.heap[D + 1]? = some (.loop r) ∧ W.heap[D]? = some (.deferred (some []))

theorem Book.turn {W W' : World} {D B : Nat} {r : Loop} (h : Book W D r) (hB : B < D) (hg : W.grownBy W' (some B)) : Book W' D r :=
  ⟨(hg.block _ (Array.getElem?_eq_some_iff.1 h.1).1 (by simp; omega)).trans h.1, (hg.block _ (Array.getElem?_eq_some_iff.1 h.2).1 (by simp; omega)).trans h.2⟩
theorem Book.kept {W W' : World} {D : Nat} {r : Loop} (h : Book W D r) (hk : KeepsFrom D W W') : Book W' D r :=
  ⟨hk.same _ _ (by omega) h.1 rfl, hk.same _ _ (Nat.le_refl _) h.2 rfl⟩
theorem Book.put {W : World} {D : Nat} {r : Loop} (h : Book W D r) (r' : Loop) : Book (W.putObj (D + 1) (.loop r')) D r' :=
  ⟨World.putObj_heap_same (Array.getElem?_eq_some_iff.1 h.1).1, (World.putObj_heap_other (by omega)).trans h.2⟩

variable {F : Fence} {n : Nat} {P : Program}

/-- one round of the loop, out of its body's walk -/
theorem round_on {α : Type} {fn : FuncId} {tmps : Array Value} {ps : Array Tmp} {assign body : Code} {D : Nat} {encs : α → Array Value} {Kp : World → World → Prop}
    {I : List α → World → Prop} {Ix : Code → List α → World → Prop} {a₁ : α → Act} {pre : List α} {x : α} {W : World} (rec : LoopState → Option Code → Loop)
    (hrec : rec = fun st pe => { state := st, pending := pe, fn, tmps, params := ps, assign, body, defers := D }) (hfn : F.fn fn) (hps : (encs x).size = ps.size)
    (hKt : ∀ {A B C : World}, Kp A B → Kp B C → Kp A C) (hKb : ∀ (W : World) (r r' : Loop), Book W D r → Kp W (W.putObj (D + 1) (.loop r')))
    (hI : ∀ s (W : World) (r r' : Loop), Book W D r → I s W → I s (W.putObj (D + 1) (.loop r'))) (hIx : ∀ c s (W : World) (r r' : Loop), Book W D r → Ix c s W → Ix c s (W.putObj (D + 1) (.loop r')))
    (hassign : ∀ (W : World) (K : Act → World → Prop), K (a₁ x) W → assign.wpIn (F.inRound (D + 1)) n P (Exit.then K (fun _ _ _ => False)) { tmps := (ps.zip (encs x)).foldl (fun t (p, v) => t.setIfInBounds p v) tmps, defers := [] } W)
    (hbody : ∀ (W : World), I pre W → body.wpIn (F.inRound (D + 1)) n P (ownPostG D Kp I Ix (pre ++ [x]) W) (a₁ x) W)
    (hi : I pre W) (hb : Book W D (rec .ready none)) :
    YieldAt F n P (D + 1) (encs x) W fun e W' =>
      (e = .returned (.bool true) ∧ (I (pre ++ [x]) W' ∧ Book W' D (rec .ready none)) ∧ Kp W W') ∨ (e = .returned (.bool false) ∧ ∃ c, Ix c (pre ++ [x]) W' ∧ Book W' D (rec .done (some c))) := by
  have hy := run_yield (P := P) (args := encs x) hb.1 (by rw [hrec]; exact hps)
  have hbusy := hb.put (rec .busy none)
  have key : ∀ (jump : Option Code) (W3 : World), KeepsFrom D (W.putObj (D + 1) (.loop (rec .busy none))) W3 →
      (Instr.endRound (D + 1) jump).run P W3 = .ok (.bool jump.isNone) (W3.putObj (D + 1) (.loop (rec (if jump.isNone then .ready else .done) jump))) ∧ Book W3 D (rec .busy none) ∧ Book (W3.putObj (D + 1) (.loop (rec (if jump.isNone then .ready else .done) jump))) D (rec (if jump.isNone then .ready else .done) jump) := by
    intro jump W3 hk
    have h3 := hbusy.kept hk
    refine ⟨?_, h3, h3.put _⟩
    have h4 := run_endRound (P := P) jump h3.1
    rw [hrec] at h4 ⊢
    exact h4
  have hbr : (Instr.beginRound (D + 1)).run P W = .ok () (W.putObj (D + 1) (.loop (rec .busy none))) := by
    have h4 := run_beginRound (P := P) hb.1 (by rw [hrec])
    rw [hrec] at h4 ⊢
    exact h4
  have hw := wpIn_mono (Q' := roundPost P (D + 1) fun e W' =>
      (e = .returned (.bool true) ∧ (I (pre ++ [x]) W' ∧ Book W' D (rec .ready none)) ∧ Kp W W') ∨ (e = .returned (.bool false) ∧ ∃ c, Ix c (pre ++ [x]) W' ∧ Book W' D (rec .done (some c)))) (hbody _ (hI _ _ _ (rec .busy none) hb hi)) (by
    intro e a3 W3 hp
    have leave : ∀ c, KeepsFrom D (W.putObj (D + 1) (.loop (rec .busy none))) W3 → Ix c (pre ++ [x]) W3 → ∃ v w', (Instr.endRound (D + 1) (some c)).run P W3 = .ok v w' ∧ ((Ending.returned v = .returned (.bool true) ∧ (I (pre ++ [x]) w' ∧ Book w' D (rec .ready none)) ∧ Kp W w') ∨ (Ending.returned v = .returned (.bool false) ∧ ∃ c, Ix c (pre ++ [x]) w' ∧ Book w' D (rec .done (some c)))) := by
      intro c hk hx
      obtain ⟨h1, h2, h3⟩ := key (some c) W3 hk
      exact ⟨_, _, h1, .inr ⟨rfl, c, hIx _ _ _ _ _ h2 hx, h3⟩⟩
    cases e with
    | normal =>
      obtain ⟨hk, hkp, hi3⟩ := hp
      obtain ⟨h1, h2, h3⟩ := key none W3 hk
      exact ⟨_, _, h1, .inl ⟨rfl, ⟨hI _ _ _ _ h2 hi3, h3⟩, hKt (hKt (hKb _ _ _ hb) hkp) (hKb _ _ _ h2)⟩⟩
    | ret => exact leave _ hp.1 hp.2
    | exit id => exact leave _ hp.1 hp.2
    | goto t => exact leave _ hp.1 hp.2
    | panic ch => exact hp.elim
    | outgrown => exact hp.elim)
  rw [hrec] at hy
  exact ⟨fn, _, assign, body, hy, roundIn_of_wpIn hfn (hassign W _ ⟨_, hbr, hw⟩)⟩

/-- the loop 'for .. := range g': the caller's law -/
theorem range_on {α : Type} {g : Operand} {ps : Array Tmp} {assign body : Code} {Q : Exit → Act → World → Prop} {a : Act} {w : World}
    (hro : F.round = none) (h1 : 1 ≤ n) {gf : Nat} {lb : Array Value} (hg : a.eval g = .func (.func gf) #[] lb) (hFg : F.fn gf) (eg : ∀ args w, (callFunc gf args).run P w = .ok (.enter gf args) w)
    {encs : α → Array Value} {B : Nat} {Kp : World → World → Prop} {xs : List α} {St : World → Prop} (hseq : SeqOn F (n - 1) P gf lb encs B Kp xs St)
    (hB : B < w.heap.size) (hSt : ∀ r, St ((w.alloc (.deferred (some []))).alloc (.loop r)))
    (hKt : ∀ {A B C : World}, Kp A B → Kp B C → Kp A C) (hKb : ∀ (W : World) (r r' : Loop), Book W w.heap.size r → Kp W (W.putObj (w.heap.size + 1) (.loop r'))) (hps : ∀ x, (encs x).size = ps.size)
    (I : List α → World → Prop) (Ix : Code → List α → World → Prop) (hI : OwnFrom w.heap.size I) (hIx : ∀ c, OwnFrom w.heap.size (Ix c)) (hIB : Turns B I) (hIxB : ∀ c, Turns B (Ix c)) (h0 : I [] w) (a₁ : α → Act)
    (hassign : ∀ (x : α) (W : World) (K : Act → World → Prop), K (a₁ x) W →
      assign.wpIn (F.inRound (w.heap.size + 1)) (n - 1 - 1) P (Exit.then K (fun _ _ _ => False)) { tmps := (ps.zip (encs x)).foldl (fun t (p, v) => t.setIfInBounds p v) a.tmps, defers := [] } W)
    (hbody : ∀ (pre : List α) (x : α) (rest : List α) (W : World), xs = pre ++ x :: rest → I pre W → body.wpIn (F.inRound (w.heap.size + 1)) (n - 1 - 1) P (ownPostG w.heap.size Kp I Ix (pre ++ [x]) W) (a₁ x) W)
    (hdone : ∀ (W : World), I xs W → W.heap[w.heap.size]? = some (.deferred (some [])) → Q .normal { a with defers := { target := .collected w.heap.size, args := #[] } :: a.defers } W)
    (hstop : ∀ (c : Code) (pre : List α) (W : World), pre <+: xs → Ix c pre W → W.heap[w.heap.size]? = some (.deferred (some [])) → c.wpIn F n P Q { a with defers := { target := .collected w.heap.size, args := #[] } :: a.defers } W) :
    (Code.rangeFunc g ps assign body).wpIn F n P Q a w := by
  refine wpIn_rangeFunc fun fn hfn => ?_
  rw [hro]
  obtain ⟨rec, hrec⟩ : ∃ rec : LoopState → Option Code → Loop, rec = fun st pe => { state := st, pending := pe, fn, tmps := a.tmps, params := ps, assign, body, defers := w.heap.size } := ⟨_, rfl⟩
  have hbook : Book ((w.alloc (.deferred (some []))).alloc (.loop (rec .ready none))) w.heap.size (rec .ready none) := by
    constructor
    · have := World.alloc_heap_new (w.alloc (.deferred (some []))) (.loop (rec .ready none)); rwa [World.size_alloc] at this
    · exact (Below.heap_alloc _ _ _ (by simp)).trans (World.alloc_heap_new w _)
  have hput : ∀ {J : List α → World → Prop}, OwnFrom w.heap.size J → ∀ s (W : World) (r r' : Loop), Book W w.heap.size r → J s W → J s (W.putObj (w.heap.size + 1) (.loop r')) := fun hJ s W r r' hb hs => hJ.putObj _ hs (by omega) hb.1 rfl
  refine ⟨w.heap.size + 1, [{ target := .collected w.heap.size, args := #[] }], (w.alloc (.deferred (some []))).alloc (.loop (rec .ready none)), { target := .fn (.func gf) lb, args := #[.func (.yield (w.heap.size + 1)) #[] #[]] }, (w.alloc (.deferred (some []))).alloc (.loop (rec .ready none)), gf,
    #[.func (.yield (w.heap.size + 1)) #[] #[]] ++ lb, (w.alloc (.deferred (some []))).alloc (.loop (rec .ready none)), ?_, ?_, ?_, ?_, fun _ => h1, ?_⟩
  · rw [hrec]; exact run_enterLoop_outer _ _ _ _ _
  · simp only [resolve, hg]
    simp [go_sem]
  · intro f' hf'; simp [Target.leads] at hf'; subst hf'; exact hFg
  · simp [invoke, go_sem, eg]
  · refine (hseq (w.heap.size + 1) (fun pre W => I pre W ∧ Book W w.heap.size (rec .ready none)) (fun pre W => ∃ c, Ix c pre W ∧ Book W w.heap.size (rec .done (some c))) _ (hSt _)
      (fun s A C hs hgr => ⟨hIB s A C hs.1 hgr, hs.2.turn hB hgr⟩) (fun s A C hs hgr => by obtain ⟨c, hc, hk⟩ := hs; exact ⟨c, hIxB c s A C hc hgr, hk.turn hB hgr⟩)
      (fun pre x rest W1 hx hs => round_on rec hrec hfn (hps x) hKt hKb (hput hI) (fun c => hput (hIx c)) (hassign x) (fun W hi => hbody pre x rest W hx hi) hs.1 hs.2)
      ⟨hI.alloc _ (hI.alloc _ h0), hbook⟩).mono ?_
    rintro e W2 ⟨⟨v, rfl⟩, (⟨hi, hk⟩ | ⟨pre, hp, c, hi, hk⟩)⟩
    · exact ⟨none, _, by have := run_endLoop (P := P) hk.1 (by rw [hrec]; simp); rw [hrec] at this; exact this, hdone _ (hput hI _ _ _ _ hk hi) (hk.put _).2⟩
    · exact ⟨some c, _, by have := run_endLoop (P := P) hk.1 (by rw [hrec]; simp); rw [hrec] at this; exact this, hstop c pre _ hp (hput (hIx c) _ _ _ _ hk hi) (hk.put _).2⟩
end
end Go.Proofs.Ytmnbkhgogogeiaa
