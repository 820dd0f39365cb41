/-
  The log is awake.
-/
import Derived.Test.YtmnbkhgogogeiaaOpen
import Derived.Lib.SmallJoins
namespace Go.Proofs.Ytmnbkhgogogeiaa
set_option linter.unusedVariables false
open Go.RowKit

theorem cellsN_le (n : Nat) (h : n ≤ 65536) : cellsN n ≤ 1640 := by unfold cellsN; omega
theorem cellsN_pos (n : Nat) : 1 ≤ cellsN n := by unfold cellsN; omega
theorem Fit.app {s : LgS} {S : List (List Nat)} {W : List (Nat × List Nat)} {data : List Nat} (h : Fit s S W) (hl : data.length ≤ 65536) (hroom : s.used + cellsN data.length ≤ s.ring) (hn : s.number ≤ 999999000000) (he : s.ents.length < 65536) (hw : W.length ≤ 890000) :
    Fit (appS s data) S (appW s data S W (cellsN data.length)) := by
  have h1 := cellsN_le _ hl
  have h2 := cellsN_pos data.length
  refine ⟨h.disk, h.ring, Nat.mod_lt _ h.ring, ?_, ?_, h.first, h.version, ?_, ?_, hroom, h.bound⟩
  · show s.number + cellsN data.length ≤ _; omega
  · show lastK s (cellsN data.length) ≤ _
    obtain ⟨m, hm⟩ : ∃ m, cellsN data.length = m + 1 := ⟨cellsN data.length - 1, by omega⟩
    rw [hm]
    show s.number + m ≤ _
    omega
  · show (s.ents ++ [_]).length ≤ _
    simp
    omega
  · rw [appW_length]; omega
theorem Fit.fresh (n : Nat) (hn : 3 ≤ n) (hn2 : n ≤ 65536) : Fit (frS (n - 2) 1) (List.replicate n (zeros 64)) [] := by
  refine ⟨by simp [frS]; omega, by show 0 < n - 2; omega, by show 0 < n - 2; omega, by show 1 ≤ _; decide, by show 0 ≤ _; decide, by show 0 ≤ _; decide, by show 0 ≤ _; decide, by show 0 ≤ _; decide, by show 0 ≤ _; decide, by show 0 ≤ n - 2; omega, by show n - 2 ≤ 65534; omega⟩
theorem Fit.flush {s : LgS} {S : List (List Nat)} {W : List (Nat × List Nat)} (h : Fit s S W) : Fit s (flushed S W) [] :=
  ⟨by rw [flushed_len]; exact h.disk, h.ring, h.place, h.number, h.last, h.first, h.version, h.ents, by simp, h.used, h.bound⟩
theorem Lg.records {B : Nat} {w0 w : World} {pl pd : Nat} {kv : Value} {s : LgS} {S : List (List Nat)} {W : List (Nat × List Nat)} (h : Lg B w0 w pl pd kv s S W) (hf : s.ents.length ≤ 65536) (hd : ∀ x ∈ s.ents, x.data.length ≤ 65536 ∧ ∀ n ∈ x.data, n < 256) :
    Calls Try.prog 27 #[.pointer (some ⟨pl, 0, none⟩)] w fun e w' => ∃ o M, e = .returned o ∧ Rows2 w' w.heap.size o M ∧ M.map (·.2) = s.ents.map (·.data) ∧ Below w.heap.size w w' := by
  obtain ⟨ev, L, hlg, he, hL⟩ := h.log
  have hLn : L.length ≤ 65536 := by have := hf; rw [← hL] at this; simpa using this
  refine (records_any hlg he hLn (fun x hx => hd x.1 (by rw [← hL]; exact List.mem_map_of_mem hx))).mono fun e w' ⟨o, M, h1, h2, h3, h4⟩ => ⟨o, M, h1, h2, ?_, h4⟩
  rw [h3, ← hL, List.map_map]
  rfl
theorem one_of (M : List (Value × List Nat)) (d : List Nat) (h : M.map (·.2) = [d]) : ∃ v, M = [(v, d)] := by
  cases M with
  | nil => simp at h
  | cons x r =>
    cases r with
    | nil =>
      obtain ⟨a, b⟩ := x
      simp at h
      subst h
      exact ⟨a, rfl⟩
    | cons y r => simp at h
theorem const_row (w : World) (B c : Nat) (hc : c < 256) : RowK B (w.alloc (.cells #[.int .u8 (c : Nat)] 5 (1, 2))) (.slice (some ⟨w.heap.size, 0, none⟩) 1 1) [c] := by
  have hh := heap_alloc_new w (.cells #[.int .u8 (c : Nat)] 5 (1, 2))
  refine ⟨⟨_, _, _, rfl, rfl, Nat.le_refl _, by decide, by simpa using hc, by simp, fun x hx i hi => ?_⟩, fun a l2 c2 e _ => .inr ?_⟩
  · obtain rfl := Option.some.inj hx
    obtain rfl : i = 0 := by simpa using hi
    rw [Addr.add_lit, cell_of_row _ _ _ _ 5 (1, 2) hh]
    simp
  · obtain ⟨⟨rfl, -⟩, -⟩ : ((⟨w.heap.size, 0, none⟩ : Addr) = a ∧ True) ∧ True := by simpa using (Value.slice.inj e).1
    exact ⟨_, _, _, hh, by decide, by decide, by decide, by decide, by decide⟩

set_option maxRecDepth 100000 in
set_option maxHeartbeats 4000000 in
set_option maxRecDepth 100000 in
theorem open_nil (w : World) : Calls Try.prog 25 #[.pointer none] w fun e w' => e = .returned (.tuple #[.pointer none, .int .i64 2]) ∧ w = w' := by
  go_enter Try.func25, Try.ntmps25
  go_wp2_with fail
  exact bodyPost_ret (v := .tuple #[.pointer none, .int .i64 2]) (by simp [results, Try.results25, go_sem]) rfl ⟨rfl, rfl⟩
set_option maxRecDepth 100000 in
theorem append_nil (v : Value) (w : World) : Calls Try.prog 63 #[.pointer none, v] w fun e w' => e = .returned (.int .i64 2) ∧ w = w' := by
  have HN := Lib.hid (none_nil w)
  go_enter Try.func63, Try.ntmps63
  go_wp2_with (go_at_call 60; refine HN.out.mono ?_; rintro e w' ⟨rfl, rfl⟩)
  go_ret
  exact ⟨rfl, rfl⟩
set_option maxRecDepth 100000 in
theorem sync_nil (w : World) : Calls Try.prog 32 #[.pointer none] w fun e w' => e = .returned (.int .i64 2) ∧ w = w' := by
  have HN := Lib.hid (none_nil w)
  go_enter Try.func32, Try.ntmps32
  go_wp2_with (go_at_call 60; refine HN.out.mono ?_; rintro e w' ⟨rfl, rfl⟩)
  go_ret
  exact ⟨rfl, rfl⟩
set_option maxRecDepth 100000 in
theorem cut_nil (n : Int) (w : World) : Calls Try.prog 45 #[.pointer none, .int .u64 n] w fun e w' => e = .returned (.int .i64 2) ∧ w = w' := by
  have HN := Lib.hid (none_nil w)
  go_enter Try.func45, Try.ntmps45
  go_wp2_with (go_at_call 60; refine HN.out.mono ?_; rintro e w' ⟨rfl, rfl⟩)
  go_ret
  exact ⟨rfl, rfl⟩
set_option maxRecDepth 100000 in
theorem records_nil (w : World) : Calls Try.prog 27 #[.pointer none] w fun e w' => e = .returned (.slice none 0 0) ∧ w = w' := by
  go_enter Try.func27, Try.ntmps27
  go_wp2_with fail
  go_ret
  exact ⟨rfl, rfl⟩
end Go.Proofs.Ytmnbkhgogogeiaa
