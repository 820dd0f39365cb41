/-
  follow, readAll.
-/
import Derived.Test.YtmnbkhgogogeiaaFresh
namespace Go.Proofs.Ytmnbkhgogogeiaa
set_option linter.unusedVariables false
open Go.RowKit

set_option maxRecDepth 100000 in
theorem follow_zero {w : World} {pl : Nat} {d ev : Value} {s : LgS} (h : LgV w pl d ev s false) (hp : s.place = 0) (hu : s.used = 0) (hr0 : 0 < s.ring) {v : Value} {n : Nat} (hs : SecZ w v n) (hn : 0 < n) :
    Calls Try.prog 49 #[.pointer (some ⟨pl, 0, none⟩), v] w fun e w' => e = .returned (.tuple #[]) ∧ Below w.heap.size w w' := by
  obtain ⟨b, off, cap, rfl, -, -, -⟩ := id hs
  have HRC := Lib.hid (record_zero h hp hu hr0 hs hn)
  clear h hs hp hu hr0
  go_enter Try.func49, Try.ntmps49
  go_wp2_with fail
  go_loopw [] (fun wr => wr = w) (fun _ => 0)
  case atStart => rfl
  case round =>
    have hwr := hrel.symm
    subst hwr
    go_wp2_with (go_at_call 77; refine HRC.out.mono ?_; rintro e w3 ⟨rfl, hb3⟩; have HB3 := Lib.hid hb3; clear hb3)
    exact bodyPost_ret (v := .tuple #[]) (by simp [results, Try.results49, go_sem]) rfl ⟨rfl, HB3.out.alloc HB3.out.size _⟩

set_option maxRecDepth 100000 in
set_option maxHeartbeats 4000000 in
theorem readAll_any {B : Nat} {w0 w : World} {pd : Nat} {kv : Value} {S : List (List Nat)} {W : List (Nat × List Nat)} (h : Held B w0 w pd kv S W 0 false) :
    Calls Try.prog 47 #[.pointer (some ⟨pd, 0, none⟩)] w fun e w' => ∃ o M, e = .returned (.tuple #[o, .int .i64 0]) ∧ Rows2 w' w.heap.size o M ∧ M.map (·.2) = (List.range S.length).map (shown S W) ∧ Below w.heap.size w w' := by
  have HH := Lib.hid h
  have hgood : Good S W := by obtain ⟨wv, mv, hdk, _⟩ := h.dk; exact hdk.good
  have hsl : S.length ≤ 65536 := hgood.sl
  have HSZ : Hid (Calls Try.prog 26 #[.pointer (some ⟨pd, 0, none⟩)] w fun e w' => e = .returned (.int .i64 (S.length : Nat)) ∧ w = w') := Lib.hid (by obtain ⟨wv, mv, hdk, _⟩ := h.dk; exact size_ok hdk)
  obtain ⟨i0, hi, hz0, hz1, hz2⟩ := info_parts Try.info23
  have HI := Lib.hid hi
  have HG := Lib.hid hgood
  clear hi h hgood
  obtain ⟨n, hn⟩ : ∃ n, S.length = n := ⟨_, rfl⟩
  rw [hn] at HSZ hsl
  have HN := Lib.hid hn
  rw [hn]
  clear hn
  go_enter Try.func47, Try.ntmps47
  go_wp2_with (go_at_call 26; refine HSZ.out.mono ?_; rintro e w' ⟨rfl, rfl⟩)
  go_loopw [11, 5] (fun i o wr => ∃ k M, k ≤ n ∧ i = .int .i64 (k : Nat) ∧ Rows2 wr w.heap.size o M ∧ M.map (·.2) = (List.range k).map (shown S W) ∧ Below w.heap.size w wr) (fun i _ _ => n - (RowKit.intOf i).toNat)
  case atStart => exact ⟨0, [], Nat.zero_le _, rfl, Rows2.nil _ _, rfl, Below.refl _ _⟩
  case round =>
    obtain ⟨k, M, hk, rfl, hm, hmm, hb⟩ := hrel
    obtain ⟨oa, oc, rfl⟩ := own_shape hm.row
    have HM := Lib.hid hm
    have HMM := Lib.hid hmm
    have HB := Lib.hid hb
    by_cases hkn : k < n
    · have hkz : (k : Int) < (n : Int) := by omega
      have HRD := Lib.hid (read_held (HH.out.below' hb) k (by rw [HN.out]; exact hkn))
      have HKN := Lib.hid hkn
      have HML : Hid (M.length = k) := Lib.hid (by have h1 := congrArg List.length HMM.out; simpa using h1)
      clear hm hmm hb
      go_wp2_with (first
        | (go_at_call 75; refine HRD.out.mono ?_; rintro e w5 ⟨o2, rfl, ho, hb5⟩
           obtain ⟨pa, pc, rfl⟩ := ho.shape
           have h5 : Rows2 w5 w.heap.size (.slice oa M.length oc) M := HM.out.below hb5
           obtain ⟨sl, hsl2⟩ : ∃ sl, (shown S W k).length = sl := ⟨_, rfl⟩
           rw [hsl2] at ho
           have HM5 : Hid (Rows2 (w5.alloc (.cells #[.slice pa sl pc] 23)) w.heap.size (.slice oa M.length oc) M) := Lib.hid (h5.below ((Below.refl _ _).alloc (Nat.le_refl _) _))
           have HB5 : Hid (Below w.heap.size w (w5.alloc (.cells #[.slice pa sl pc] 23))) := Lib.hid ((HB.out.trans (hb5.mono HB.out.size)).alloc (Nat.le_trans HB.out.size hb5.size) _)
           have HY5 : Hid (OwnB (w5.alloc (.cells #[.slice pa sl pc] 23)) w.heap.size (.slice pa sl pc) (shown S W k)) := Lib.hid ((owns_mono ho HB.out.size).alloc _)
           have HW5 : Hid ((w5.alloc (.cells #[.slice pa sl pc] 23)).heap[w5.heap.size]? = some (.cells #[.slice pa sl pc] 23 (0, 0))) := Lib.hid (heap_alloc_new w5 _)
           have HSL := Lib.hid hsl2
           clear ho hb5 h5 hsl2
           rw [HSL.out])
        | (at_builtin; go_loud (refine wpList_append_own _ rfl (.tmp 24) (.tmp 26) 69 rfl w.heap.size 23 i0 _ 1 24 Try.underlying69 HI.out hz0 hz1 hz2 rfl (by decide) (.slice oa M.length oc) M.length (M.map (·.1)) rfl HM5.out.row ⟨w5.heap.size, 0, none⟩ 1 1 [.slice pa sl pc] rfl rfl (World.news_of_block (cs := #[.slice pa sl pc]) (t := 23) (fr := (0, 0)) HW5.out) (by simp [Value.oneCell']) (by have := HML.out; unfold maxLen; omega) (by have := HML.out; omega) HB5.out.size ?_)))
      intro o w6 ho hgr _
      have HM6 := Lib.hid (HM5.out.grown HY5.out hgr rfl ho)
      have HB6 : Hid (Below w.heap.size w w6) := Lib.hid (HB5.out.grown hgr HB5.out.size (fun j hj => (World.ownsRow.lt HM5.out.row j hj).1))
      obtain ⟨oa2, oc2, rfl⟩ := own_shape ho
      clear ho hgr
      go_wp2_with fail
      go_roundw
      case rel => exact ⟨k + 1, M ++ [(.slice pa sl pc, shown S W k)], HKN.out, by go_num, HM6.out, by rw [List.range_succ, List.map_append, List.map_append, HMM.out]; rfl, HB6.out⟩
      case measure => simp [intOf]; omega
    · obtain rfl : k = n := by omega
      go_wp2_with fail
      exact bodyPost_ret (v := .tuple #[.slice oa M.length oc, .int .i64 0]) (by simp [results, Try.results47, go_sem]) rfl ⟨_, M, rfl, HM.out, HMM.out, HB.out⟩
end Go.Proofs.Ytmnbkhgogogeiaa
