/-
  Open of a disk that was never written; Get; Len.
-/
import Derived.Test.YtmnbkhgogogeiaaDo
namespace Go.Proofs.Ytmnbkhgogogeiaa
set_option linter.unusedVariables false
open Go.RowKit

set_option maxRecDepth 100000 in
set_option maxHeartbeats 4000000 in
theorem topen_fresh {B : Nat} {w0 w : World} {pd n : Nat} {kv : Value} (h : Held B w0 w pd kv (List.replicate n (zeros 64)) [] 0 false) (hn : 3 ≤ n) (hn2 : n ≤ 65536) :
    Calls Try.prog 8 #[.pointer (some ⟨pd, 0, none⟩)] w fun e w' => ∃ pt pl, e = .returned (.tuple #[.pointer (some ⟨pt, 0, none⟩), .int .i64 0]) ∧ Tb B w0 w' pt pl pd kv (n - 2) 0 n [] ∧ Below w.heap.size w w' := by
  have HOP := Lib.hid (open_fresh h hn hn2)
  have HFF := Lib.hid (Fit.fresh n hn hn2)
  have HN : Hid (3 ≤ n ∧ n ≤ 65536 ∧ B ≤ w.heap.size) := Lib.hid ⟨hn, hn2, Nat.le_trans h.base h.below.size⟩
  clear h hn hn2
  go_enter Try.func8, Try.ntmps8
  go_wp2_with fail
  refine HOP.out.mono ?_
  rintro e w1 ⟨pl, rfl, hl1, -, hb1⟩
  have HL1 := Lib.hid hl1
  have HB1 := Lib.hid hb1
  have HSZ : Hid (Calls Try.prog 26 #[.pointer (some ⟨pd, 0, none⟩)] w1 fun e w' => e = .returned (.int .i64 (n : Nat)) ∧ w1 = w') := Lib.hid (by
    obtain ⟨wv, mv, hdk, _⟩ := hl1.disk.dk
    have := size_ok hdk
    rwa [List.length_replicate] at this)
  clear hl1 hb1
  go_upto_region 5 with (first | (go_at_call 26; refine HSZ.out.mono ?_; rintro e w' ⟨rfl, rfl⟩))
  have HX := Lib.hid (heap_alloc_new w1 (.cells #[.pointer (some ⟨pl, 0, none⟩), .int .i64 (n : Nat), .int .i64 0, .slice none 0 0] 68))
  have hA : Below w1.heap.size w1 (w1.alloc (.cells #[.pointer (some ⟨pl, 0, none⟩), .int .i64 (n : Nat), .int .i64 0, .slice none 0 0] 68)) := (Below.refl _ _).alloc (Nat.le_refl _) _
  have HL2 := Lib.hid (HL1.out.below hA)
  have HB2 := Lib.hid (HB1.out.trans (hA.mono HB1.out.size))
  have HPT : Hid (w.heap.size ≤ w1.heap.size) := Lib.hid HB1.out.size
  clear hA
  generalize w1.alloc (.cells #[.pointer (some ⟨pl, 0, none⟩), .int .i64 (n : Nat), .int .i64 0, .slice none 0 0] 68) = w2 at *
  generalize w1.heap.size = pt at *
  have HRC := Lib.hid (HL2.out.records (Nat.zero_le _) (fun x hx => by cases hx))
  go_wp2_with (first | (go_at_call 27; refine HRC.out.mono ?_; rintro e w3 ⟨o, M, rfl, hm, hmd, hb3⟩
                        have HB3 := Lib.hid hb3
                        obtain ⟨oa, oc, ho⟩ := own_shape hm.row
                        have hM0 : M.length = 0 := by have := congrArg List.length hmd; simpa [frS] using this
                        rw [hM0] at ho
                        subst ho
                        clear hm hmd hb3 hM0))
  go_loopw [27] (fun i wr => i = .int .i64 0 ∧ wr = w3) (fun i _ => 0)
  case atStart => exact ⟨rfl, rfl⟩
  case round =>
    obtain ⟨rfl, rfl⟩ := hrel
    rename World => w3
    go_wp2_with fail
    refine bodyPost_ret (v := .tuple #[.pointer (some ⟨pt, 0, none⟩), .int .i64 0]) (by simp [results, Try.results8, go_sem]) rfl ?_
    have htv : TbV w2 pt (.pointer (some ⟨pl, 0, none⟩)) n 0 (.slice none 0 0) := HX.out
    refine ⟨pt, pl, rfl, ⟨⟨_, _, _, HL2.out.below HB3.out, HFF.out, rfl, Nat.zero_le _, Nat.le_refl _, Nat.zero_le _, Nat.zero_le _⟩, ⟨0, _, [], htv.below HB3.out, Nat.zero_le _, ⟨World.ownsRow_nil _ _ _ _, fun _ h => by cases h⟩, rfl⟩, Nat.le_trans HN.out.2.2 HPT.out, Nat.zero_le _⟩, HB2.out.trans (HB3.out.mono HB2.out.size)⟩

theorem Tb.parts {B : Nat} {w0 w : World} {pt pl pd : Nat} {kv : Value} {ring u sec : Nat} {P : List (List Nat × List Nat)} (h : Tb B w0 w pt pl pd kv ring u sec P) :
    ∃ cost pv, TbV w pt (.pointer (some ⟨pl, 0, none⟩)) sec cost pv ∧ PairV w pv P := by
  obtain ⟨_, ⟨cost, pv, L, ht, _, hr, hm⟩, _⟩ := h
  exact ⟨cost, pv, ht, by rw [← hm]; exact hr.pairV⟩
set_option maxRecDepth 100000 in
set_option maxHeartbeats 4000000 in
theorem len_any {B : Nat} {w0 w : World} {pt pl pd : Nat} {kv : Value} {ring u sec : Nat} {P : List (List Nat × List Nat)} (h : Tb B w0 w pt pl pd kv ring u sec P) :
    Calls Try.prog 22 #[.pointer (some ⟨pt, 0, none⟩)] w fun e w' => e = .returned (.int .i64 (P.length : Nat)) ∧ w = w' := by
  obtain ⟨cost, pv, ht, a, cap, rfl, -⟩ := h.parts
  obtain ⟨-, -, -, t3⟩ := ht.cells
  clear h ht
  go_enter Try.func22, Try.ntmps22
  go_wp2_with fail
  go_ret
  exact ⟨rfl, rfl⟩
set_option maxRecDepth 100000 in
set_option maxHeartbeats 4000000 in
theorem get_yes {B : Nat} {w0 w : World} {pt pl pd : Nat} {kv : Value} {ring u sec : Nat} {P : List (List Nat × List Nat)} (h : Tb B w0 w pt pl pd kv ring u sec P) {vk : Value} {key : List Nat} (hk : RowB w vk key) (hP : P.length ≤ 10000)
    (c : Nat) {val : List Nat} (hx : P[c]? = some (key, val)) (hm : ∀ i (h : i < P.length), decide (0 ≤ cmpL P[i].1 key) = decide (c ≤ i)) (hl : val.length ≤ 1000000) :
    Calls Try.prog 17 #[.pointer (some ⟨pt, 0, none⟩), vk] w fun e w' => ∃ o, e = .returned (.tuple #[o, .bool true]) ∧ OwnB w' w.heap.size o val ∧ Below w.heap.size w w' := by
  obtain ⟨cost, pv, ht, hv⟩ := h.parts
  obtain ⟨hc, hx2⟩ := List.getElem?_eq_some_iff.1 hx
  have HPL := Lib.hid (place_any ht hv hk (by omega) c (Nat.le_of_lt hc) hm)
  have hd : decide (P[c]?.map (·.1) = some key) = true := by
    rw [hx]
    simp
  rw [hd] at HPL
  have HT := Lib.hid ht
  have HV := Lib.hid hv
  obtain ⟨sa, sl, sc, rfl, -⟩ := id hk
  have hcz : (c : Int) < (P.length : Int) := by omega
  have HC := Lib.hid hc
  have HX := Lib.hid hx2
  have HLV := Lib.hid hl
  obtain ⟨a, cap, rfl, -, -, -⟩ := id hv
  clear h ht hv hk hm hd hx hl
  have HCC := Lib.hid (show ∀ (h : c < P.length), P[c] = (key, val) from fun _ => hx2)
  clear HX hx2 hc
  go_enter Try.func17, Try.ntmps17
  go_upto_region 6 with (first | (go_at_call 36; refine HPL.out.mono ?_; rintro e w1 ⟨rfl, hb1⟩; have HB1 := Lib.hid hb1; clear hb1))
  obtain ⟨a2, cap2, e, -, -, h3⟩ := HV.out.below HB1.out
  obtain ⟨rfl, -, rfl⟩ := Value.slice.inj e
  obtain ⟨g, rfl, hcell⟩ : ∃ g, a = some ⟨g, 0, none⟩ ∧ ∀ i (h : i < P.length), ∃ ka kl kc va vl vc,
      w1.cell? ⟨g, i * 2, none⟩ = some (.slice ka kl kc) ∧ w1.cell? ⟨g, i * 2 + 1, none⟩ = some (.slice va vl vc) ∧ RowB w1 (.slice ka kl kc) P[i].1 ∧ RowB w1 (.slice va vl vc) P[i].2 := by
    rcases h3 with h3 | h3
    · have := HC.out; rw [h3] at this; simp at this
    · exact h3
  obtain ⟨ka, kl, kc, va, vl, vc, -, c1, -, r2⟩ := hcell c HC.out
  rw [HCC.out HC.out] at r2
  obtain ⟨-, -, -, t3⟩ := (HT.out.below HB1.out).cells
  have HCL := Lib.hid (bclone_any _ _ w1 r2 (Nat.le_trans HLV.out (by decide)))
  clear h3 hcell e r2
  go_wp2_with (first | (go_at_call 37; refine HCL.out.mono ?_; rintro e w2 ⟨o, rfl, ho, hb2⟩; obtain ⟨oa, oc, rfl⟩ := ho.shape; have HO := Lib.hid ho; have HB2 := Lib.hid hb2; clear ho hb2))
  exact bodyPost_ret (v := .tuple #[.slice oa _ oc, .bool true]) (by simp [results, Try.results17, go_sem]) rfl ⟨_, rfl, owns_mono HO.out HB1.out.size, HB1.out.trans (HB2.out.mono HB1.out.size)⟩
set_option maxRecDepth 100000 in
set_option maxHeartbeats 4000000 in
theorem get_no {B : Nat} {w0 w : World} {pt pl pd : Nat} {kv : Value} {ring u sec : Nat} {P : List (List Nat × List Nat)} (h : Tb B w0 w pt pl pd kv ring u sec P) {vk : Value} {key : List Nat} (hk : RowB w vk key) (hP : P.length ≤ 10000)
    (c : Nat) (hc : c ≤ P.length) (hm : ∀ i (h : i < P.length), decide (0 ≤ cmpL P[i].1 key) = decide (c ≤ i)) (he : decide (P[c]?.map (·.1) = some key) = false) :
    Calls Try.prog 17 #[.pointer (some ⟨pt, 0, none⟩), vk] w fun e w' => e = .returned (.tuple #[.slice none 0 0, .bool false]) ∧ Below w.heap.size w w' := by
  obtain ⟨cost, pv, ht, hv⟩ := h.parts
  have HPL := Lib.hid (place_any ht hv hk (by omega) c hc hm)
  rw [he] at HPL
  obtain ⟨sa, sl, sc, rfl, -⟩ := id hk
  clear h ht hv hk hm he hc
  go_enter Try.func17, Try.ntmps17
  go_wp2_with (first | (go_at_call 36; refine HPL.out.mono ?_; rintro e w1 ⟨rfl, hb1⟩; have HB1 := Lib.hid hb1; clear hb1))
  exact bodyPost_ret (v := .tuple #[.slice none 0 0, .bool false]) (by simp [results, Try.results17, go_sem]) rfl ⟨rfl, HB1.out⟩
end Go.Proofs.Ytmnbkhgogogeiaa
