/-
  The log is awake.
-/
import Derived.Test.YtmkedanlpapndaaOpen
import Derived.Lib.SmallJoins
namespace Go.Proofs.Ytmkedanlpapndaa
set_option linter.unusedVariables false
open Go.RowKit

theorem cellsN_le (n : Nat) (h : n ≤ 65536) : cellsN n ≤ 1640 := by unfold cellsN; omega
theorem cellsN_pos (n : Nat) : 1 ≤ cellsN n := by unfold cellsN; omega
theorem Fit.app {s : LgS} {S : List (List Nat)} {W : List (Nat × List Nat)} {data : List Nat} (h : Fit s S W) (hl : data.length ≤ 65536) (hroom : s.used + cellsN data.length ≤ s.ring) (hn : s.number ≤ 999999000000) (he : s.ents.length < 65536) (hw : W.length ≤ 890000) :
    Fit (appS s data) S (appW s data S W (cellsN data.length)) := by
  have h1 := cellsN_le _ hl
  have h2 := cellsN_pos data.length
  refine ⟨h.disk, h.ring, Nat.mod_lt _ h.ring, ?_, ?_, h.first, h.version, ?_, ?_, hroom, h.bound⟩
  · show s.number + cellsN data.length ≤ _; omega
  · show lastK s (cellsN data.length) ≤ _
    obtain ⟨m, hm⟩ : ∃ m, cellsN data.length = m + 1 := ⟨cellsN data.length - 1, by omega⟩
    rw [hm]
    show s.number + m ≤ _
    omega
  · show (s.ents ++ [_]).length ≤ _
    simp
    omega
  · rw [appW_length]; omega
theorem Fit.fresh (n : Nat) (hn : 3 ≤ n) (hn2 : n ≤ 65536) : Fit (frS (n - 2) 1) (List.replicate n (zeros 64)) [] := by
  refine ⟨by simp [frS]; omega, by show 0 < n - 2; omega, by show 0 < n - 2; omega, by show 1 ≤ _; decide, by show 0 ≤ _; decide, by show 0 ≤ _; decide, by show 0 ≤ _; decide, by show 0 ≤ _; decide, by show 0 ≤ _; decide, by show 0 ≤ n - 2; omega, by show n - 2 ≤ 65534; omega⟩
theorem Fit.flush {s : LgS} {S : List (List Nat)} {W : List (Nat × List Nat)} (h : Fit s S W) : Fit s (flushed S W) [] :=
  ⟨by rw [flushed_len]; exact h.disk, h.ring, h.place, h.number, h.last, h.first, h.version, h.ents, by simp, h.used, h.bound⟩
theorem Lg.records {B : Nat} {w0 w : World} {pl pd : Nat} {kv : Value} {s : LgS} {S : List (List Nat)} {W : List (Nat × List Nat)} (h : Lg B w0 w pl pd kv s S W) (hf : s.ents.length ≤ 65536) (hd : ∀ x ∈ s.ents, x.data.length ≤ 65536 ∧ ∀ n ∈ x.data, n < 256) :
    Calls Try.prog 24 #[.pointer (some ⟨pl, 0, none⟩)] w fun e w' => ∃ o M, e = .returned o ∧ Rows2 w' w.heap.size o M ∧ M.map (·.2) = s.ents.map (·.data) ∧ Below w.heap.size w w' := by
  obtain ⟨ev, L, hlg, he, hL⟩ := h.log
  have hLn : L.length ≤ 65536 := by have := hf; rw [← hL] at this; simpa using this
  refine (records_any hlg he hLn (fun x hx => hd x.1 (by rw [← hL]; exact List.mem_map_of_mem hx))).mono fun e w' ⟨o, M, h1, h2, h3, h4⟩ => ⟨o, M, h1, h2, ?_, h4⟩
  rw [h3, ← hL, List.map_map]
  rfl
theorem one_of (M : List (Value × List Nat)) (d : List Nat) (h : M.map (·.2) = [d]) : ∃ v, M = [(v, d)] := by
  cases M with
  | nil => simp at h
  | cons x r =>
    cases r with
    | nil =>
      obtain ⟨a, b⟩ := x
      simp at h
      subst h
      exact ⟨a, rfl⟩
    | cons y r => simp at h
theorem const_row (w : World) (B c : Nat) (hc : c < 256) : RowK B (w.alloc (.cells #[.int .u8 (c : Nat)] 5 (1, 2))) (.slice (some ⟨w.heap.size, 0, none⟩) 1 1) [c] := by
  have hh := heap_alloc_new w (.cells #[.int .u8 (c : Nat)] 5 (1, 2))
  refine ⟨⟨_, _, _, rfl, rfl, Nat.le_refl _, by decide, by simpa using hc, by simp, fun x hx i hi => ?_⟩, fun a l2 c2 e _ => .inr ?_⟩
  · obtain rfl := Option.some.inj hx
    obtain rfl : i = 0 := by simpa using hi
    rw [Addr.add_lit, cell_of_row _ _ _ _ 5 (1, 2) hh]
    simp
  · obtain ⟨⟨rfl, -⟩, -⟩ : ((⟨w.heap.size, 0, none⟩ : Addr) = a ∧ True) ∧ True := by simpa using (Value.slice.inj e).1
    exact ⟨_, _, _, hh, by decide, by decide, by decide, by decide, by decide⟩

set_option maxRecDepth 100000 in
set_option maxHeartbeats 4000000 in
theorem awake_any (w : World) : Calls Try.prog 8 #[] w fun e w' => e = .returned (.bool true) ∧ Below w.heap.size w w' := by
  go_enter Try.func8, Try.ntmps8
  go_wp2_with fail
  refine (new_held 100 w (by decide) (by decide)).mono ?_
  rintro e w1 ⟨pd, kv, rfl, hd1⟩
  have HD1 := Lib.hid hd1
  clear hd1
  go_wp2_with fail
  refine (open_fresh HD1.out (by decide) (by decide)).mono ?_
  rintro e w2 ⟨pl, rfl, hl2, -, hb2⟩
  have HL2 := Lib.hid hl2
  clear hl2 hb2
  go_wp2_with fail
  have hF2 := Fit.fresh 100 (by decide) (by decide)
  have kc := Go.Joins.run_convert_bytes_const_at (P := Try.prog) w2 34 5 #[.int .u8 97] 1 1 w2.heap.size rfl Try.underlying34 Try.underlying5
  rw [kc]
  clear kc
  simp only [Result.andThen]
  rw [Oper.upon_value]
  have hA1 : Below w2.heap.size w2 (w2.alloc (.cells #[.int .u8 97] 5 (1, 2))) := (Below.refl _ _).alloc (Nat.le_refl _) _
  have HAP1 := Lib.hid (append_any (HL2.out.below hA1) hF2 (const_row w2 w.heap.size 97 (by decide)) (by decide) (by decide))
  have HF3 := Lib.hid (hF2.app (data := [97]) (by decide) (by decide) (by decide) (by decide) (by decide))
  clear hF2 hA1
  go_wp2_with fail
  refine HAP1.out.mono ?_
  rintro e w3 ⟨rfl, hl3, -⟩
  have HL3 := Lib.hid hl3
  clear hl3 HAP1 HL2
  go_wp2_with fail
  have kc := Go.Joins.run_convert_bytes_const_at (P := Try.prog) w3 34 5 #[.int .u8 98] 1 1 w3.heap.size rfl Try.underlying34 Try.underlying5
  rw [kc]
  clear kc
  simp only [Result.andThen]
  rw [Oper.upon_value]
  have hA1 : Below w3.heap.size w3 (w3.alloc (.cells #[.int .u8 98] 5 (1, 2))) := (Below.refl _ _).alloc (Nat.le_refl _) _
  have HAP1 := Lib.hid (append_any (HL3.out.below hA1) HF3.out (const_row w3 w.heap.size 98 (by decide)) (by decide) (by decide))
  have HF4 := Lib.hid (HF3.out.app (data := [98]) (by decide) (by decide) (by decide) (by decide) (by rw [appW_length]; decide))
  clear hA1
  go_wp2_with fail
  refine HAP1.out.mono ?_
  rintro e w4 ⟨rfl, hl4, -⟩
  have HL4 := Lib.hid hl4
  clear hl4 HAP1 HL3 HF3
  go_wp2_with fail
  refine (sync_any HL4.out).mono ?_
  rintro e w5 ⟨rfl, hl5, -⟩
  have HL5 := Lib.hid hl5
  have HF5 := Lib.hid HF4.out.flush
  clear hl5 HL4 HF4
  go_wp2_with fail
  refine (cut_any HL5.out HF5.out 1 (by decide) ⟨1, 1, 1, [98]⟩ rfl (by decide) (by decide)).mono ?_
  rintro e w6 ⟨rfl, hl6, -⟩
  have HL6 := Lib.hid hl6
  clear hl6 HL5 HF5
  go_wp2_with fail
  refine (HL6.out.records (by decide) (by decide)).mono ?_
  rintro e w7 ⟨o, M, rfl, hm, hmm, hb7⟩
  have hmm2 : M.map (·.2) = [[98]] := hmm
  obtain ⟨v, rfl⟩ := one_of M _ hmm2
  obtain ⟨g, gc, hog, hgc, hcell⟩ : ∃ g gc, o = .slice (some ⟨g, 0, none⟩) 1 gc ∧ 1 ≤ gc ∧ w7.cell? ⟨g, 0, none⟩ = some v := by
    rcases hm.row.2 with ⟨e, h1⟩ | ⟨g, cap, cur, e, hb, hh, hc, hmx, hs, ht⟩
    · simp at h1
    · refine ⟨g, cap, e, hc, ?_⟩
      rw [cell_of_row _ _ _ _ 34 (0, 0) hh]
      have h3 : ([(v, [98])].map (·.1) : List Value)[0]? = some v := rfl
      rw [← ht, List.getElem?_take_of_lt (by simp)] at h3
      simpa using h3
  subst hog
  have hov := hm.own (v, [98]) (by simp)
  obtain ⟨va, vc, hve⟩ : ∃ va vc, v = .slice va 1 vc := hov.shape
  have hs := run_str (hov.rowB (by intro n hn; simp at hn; omega))
  rw [show strN [98] = ⟨#[98]⟩ by decide] at hs
  subst hve
  have HFI := Lib.hid ((HL6.out.below hb7).firsts)
  have HB7 : Hid (Below w.heap.size w w7) := Lib.hid ((HL6.out.below hb7).disk.below)
  clear hm hmm hmm2 hov HL6 hb7
  go_wp2_with (first | (go_at_call 22; refine HFI.out.mono ?_; rintro e w' ⟨rfl, rfl⟩))
  go_ret
  exact ⟨rfl, HB7.out⟩

set_option maxRecDepth 100000 in
theorem open_nil (w : World) : Calls Try.prog 15 #[.pointer none] w fun e w' => e = .returned (.tuple #[.pointer none, .int .i64 2]) ∧ w = w' := by
  go_enter Try.func15, Try.ntmps15
  go_wp2_with fail
  exact bodyPost_ret (v := .tuple #[.pointer none, .int .i64 2]) (by simp [results, Try.results15, go_sem]) rfl ⟨rfl, rfl⟩
set_option maxRecDepth 100000 in
theorem append_nil (v : Value) (w : World) : Calls Try.prog 17 #[.pointer none, v] w fun e w' => e = .returned (.int .i64 2) ∧ w = w' := by
  have HN := Lib.hid (none_nil w)
  go_enter Try.func17, Try.ntmps17
  go_wp2_with (go_at_call 37; refine HN.out.mono ?_; rintro e w' ⟨rfl, rfl⟩)
  go_ret
  exact ⟨rfl, rfl⟩
set_option maxRecDepth 100000 in
theorem sync_nil (w : World) : Calls Try.prog 18 #[.pointer none] w fun e w' => e = .returned (.int .i64 2) ∧ w = w' := by
  have HN := Lib.hid (none_nil w)
  go_enter Try.func18, Try.ntmps18
  go_wp2_with (go_at_call 37; refine HN.out.mono ?_; rintro e w' ⟨rfl, rfl⟩)
  go_ret
  exact ⟨rfl, rfl⟩
set_option maxRecDepth 100000 in
theorem cut_nil (n : Int) (w : World) : Calls Try.prog 26 #[.pointer none, .int .u64 n] w fun e w' => e = .returned (.int .i64 2) ∧ w = w' := by
  have HN := Lib.hid (none_nil w)
  go_enter Try.func26, Try.ntmps26
  go_wp2_with (go_at_call 37; refine HN.out.mono ?_; rintro e w' ⟨rfl, rfl⟩)
  go_ret
  exact ⟨rfl, rfl⟩
set_option maxRecDepth 100000 in
theorem records_nil (w : World) : Calls Try.prog 24 #[.pointer none] w fun e w' => e = .returned (.slice none 0 0) ∧ w = w' := by
  go_enter Try.func24, Try.ntmps24
  go_wp2_with fail
  go_ret
  exact ⟨rfl, rfl⟩
set_option maxRecDepth 100000 in
set_option maxHeartbeats 4000000 in
theorem nil_walk (w : World) (v : Value) (n : Int) : Calls Try.prog 6 #[v, .int .u64 n] w fun e w' => e = .returned (.bool true) ∧ Below w.heap.size w w' := by
  have HA := Lib.hid (awake_any w)
  go_enter Try.func6, Try.ntmps6
  go_wp2_with (first
    | (go_at_call 15; refine (open_nil _).mono ?_; rintro e w' ⟨rfl, rfl⟩)
    | (go_at_call 8; refine HA.out.mono ?_; rintro e w2 ⟨rfl, hb⟩; have HB := Lib.hid hb; clear hb)
    | (go_at_call 17; refine (append_nil _ _).mono ?_; rintro e w' ⟨rfl, rfl⟩)
    | (go_at_call 18; refine (sync_nil _).mono ?_; rintro e w' ⟨rfl, rfl⟩)
    | (go_at_call 26; refine (cut_nil _ _).mono ?_; rintro e w' ⟨rfl, rfl⟩)
    | (go_at_call 22; refine (first_nil _).mono ?_; rintro e w' ⟨rfl, rfl⟩)
    | (go_at_call 21; refine (next_nil _).mono ?_; rintro e w' ⟨rfl, rfl⟩)
    | (go_at_call 24; refine (records_nil _).mono ?_; rintro e w' ⟨rfl, rfl⟩))
  go_ret
  exact ⟨rfl, HB.out⟩
end Go.Proofs.Ytmkedanlpapndaa
