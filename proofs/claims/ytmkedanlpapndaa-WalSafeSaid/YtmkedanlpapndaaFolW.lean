/-
  follow, at any sectors.
-/
import Derived.Test.YtmkedanlpapndaaFolP
namespace Go.Proofs.Ytmkedanlpapndaa
set_option linter.unusedVariables false
open Go.RowKit

/-- what follow has in hand between two rounds -/
structure FolI (w wr : World) (pl : Nat) (d : Value) (s : LgS) (L : Nat → List Nat) (R : LgS) : Prop where
  bes : Beside (fun k => k = pl) w wr
  st : ∃ m s' ev' L', LgV wr pl d ev' s' false ∧ EntR wr w.heap.size ev' L' ∧ L'.map (·.1) = s'.ents ∧ s'.ring = s.ring ∧ s'.place ≤ 65536 ∧ s'.used ≤ s.ring ∧ s'.ents.length ≤ s'.used ∧ s.ring - s'.used < m ∧ folS L m s' = R

set_option maxRecDepth 100000 in
set_option maxHeartbeats 4000000 in
theorem follow_any {w : World} {pl : Nat} {dp : Option Addr} {s : LgS} (h : LgV w pl (.pointer dp) (.slice none 0 0) s false) (he : s.ents = []) (hp : s.place ≤ 65536) (hu : s.used = 0) (hr0 : 0 < s.ring) (hrb : s.ring ≤ 65536) {v : Value} {L : Nat → List Nat} (hs : SecL w v s.ring L) (hne : v.ownBlock ≠ some pl) :
    Calls Try.prog 35 #[.pointer (some ⟨pl, 0, none⟩), v] w fun e w' => e = .returned (.tuple #[]) ∧ Beside (fun k => k = pl) w w' ∧ ∃ ev' L', LgV w' pl (.pointer dp) ev' (folS L (s.ring + 1) s) false ∧ EntR w' w.heap.size ev' L' ∧ L'.map (·.1) = (folS L (s.ring + 1) s).ents := by
  obtain ⟨b, off, cap, rfl, -, -, -⟩ := id hs
  have HS := Lib.hid hs
  have HL := Lib.hid h
  have HNE := Lib.hid hne
  have HI0 : Hid (FolI w w pl (.pointer dp) s L (folS L (s.ring + 1) s)) := Lib.hid ⟨Beside.refl _ _, s.ring + 1, s, _, [], h, ⟨World.ownsRow_nil _ _ _ _, fun _ h => by cases h⟩, by rw [he]; rfl, rfl, hp, by omega, by rw [he]; simp, by omega, rfl⟩
  generalize hR : folS L (s.ring + 1) s = R at *
  have HRB := Lib.hid (And.intro hr0 hrb)
  clear h hs hp hu hr0 hrb hR he hne
  go_enter Try.func35, Try.ntmps35
  go_wp2_with fail
  go_loopw [] (fun wr => FolI w wr pl (.pointer dp) s L R) (fun wr => match wr.cell? ⟨pl, 8, none⟩ with | some (.int _ k) => s.ring - k.toNat | _ => 0)
  case atStart => exact HI0.out
  case round =>
    obtain ⟨hbs, m, s', ev', L', hl, he, hle, hrg, hpl, hus, hen, hm, hfn⟩ := hrel
    have HRC := Lib.hid (record_any hl hpl (by have := HRB.out.2; omega) (by rw [hrg]; exact HRB.out.1) (by rw [hrg]; exact HRB.out.2) (by rw [hrg]; exact HS.out.but HL.out hbs HNE.out))
    obtain ⟨m, rfl⟩ : ∃ k, m = k + 1 := ⟨m - 1, by omega⟩
    rw [folS] at hfn
    cases hrr : recR L s'.ring s'.place s'.used 3000 0 1 s'.last 0 [] with
    | none =>
      rw [hrr] at hfn HRC
      simp only at hfn
      subst hfn
      have HE := Lib.hid (And.intro hl (And.intro he (And.intro hle hbs)))
      clear hl he hle hrg hpl hus hen hm hbs hrr
      go_wp2_with (go_at_call 51; refine HRC.out.mono ?_; rintro e w3 ⟨rfl, hb3⟩; have HB3 := Lib.hid hb3; clear hb3)
      refine bodyPost_ret (v := .tuple #[]) (by simp [results, Try.results35, go_sem]) rfl ?_
      have hW : Below wr.heap.size wr (w3.alloc (.cells #[.int .i64 0, .int .u64 0, .int .i64 0, .slice none 0 0] 80)) := HB3.out.alloc HB3.out.size _
      obtain ⟨hl, he, hle, hbs⟩ := HE.out
      exact ⟨rfl, hbs.trans ⟨hW.os, hW.tape, hW.output, hW.size, fun k hk _ => hW.block k hk⟩, _, _, hl.qb (Below.qb hW) (Nat.le_refl _), he.qb (Below.qb hW) (Nat.le_refl _), hle⟩
    | some t =>
      obtain ⟨c, n, data⟩ := t
      rw [hrr] at hfn HRC
      simp only at hfn
      have hrs := recR_some _ _ _ _ _ _ _ _ _ _ _ _ _ (Nat.le_refl 1) hrr
      have HRS := Lib.hid hrs
      have HE := Lib.hid (And.intro hl (And.intro he (And.intro hle (And.intro hbs (And.intro hrg (And.intro hpl (And.intro hus (And.intro hen hm))))))))
      have HFN := Lib.hid hfn
      have HC8 : Hid (wr.cell? ⟨pl, 8, none⟩ = some (.int .i64 (s'.used : Nat))) := Lib.hid hl.cells.2.2.2.2.2.2.2.2.1
      clear hl he hle hbs hrg hpl hus hen hm hfn hrr hrs HI0
      go_upto_region 4 with (first
        | (go_at_call 51; refine HRC.out.mono ?_; rintro e w3 ⟨⟨dv, rfl, hdv⟩, hb3⟩
           obtain ⟨va, vc, rfl⟩ := hdv.shape
           have HB3 := Lib.hid hb3; have HDV := Lib.hid hdv; clear hb3 hdv))
      have hW : Below wr.heap.size wr (w3.alloc (.cells #[.int .i64 (s'.place : Nat), .int .u64 (s'.last : Nat), .int .i64 (c : Nat), .slice va data.length vc] 80)) := HB3.out.alloc HB3.out.size _
      have HX4 := Lib.hid (heap_alloc_new w3 (.cells #[.int .i64 (s'.place : Nat), .int .u64 (s'.last : Nat), .int .i64 (c : Nat), .slice va data.length vc] 80))
      have HD4 : Hid (OwnB (w3.alloc (.cells #[.int .i64 (s'.place : Nat), .int .u64 (s'.last : Nat), .int .i64 (c : Nat), .slice va data.length vc] 80)) wr.heap.size (.slice va data.length vc) data) := Lib.hid (HDV.out.alloc _)
      have HW := Lib.hid hW
      clear hW HDV HB3
      generalize w3.alloc (.cells #[.int .i64 (s'.place : Nat), .int .u64 (s'.last : Nat), .int .i64 (c : Nat), .slice va data.length vc] 80) = w4 at *
      generalize w3.heap.size = P at *
      obtain ⟨hl, he, hle, hbs, hrg, hpl, hus, hen, hm⟩ := HE.out
      have hb4 : Beside (fun k => k = pl) w w4 := hbs.trans ⟨HW.out.os, HW.out.tape, HW.out.output, HW.out.size, fun k hk _ => HW.out.block k hk⟩
      have hL' : L'.length = s'.ents.length := by rw [← hle]; simp
      have hr := HRB.out
      have hc := HRS.out
      have HT := Lib.hid (take_any (hl.qb (Below.qb HW.out) (Nat.le_refl _)) (he.qb (Below.qb HW.out) (Nat.le_refl _)) (Nat.le_trans hbs.size HW.out.size) (by omega) ⟨s'.place, s'.last, c, data⟩ (v := .slice va data.length vc) (owns_mono HD4.out hbs.size) n (by omega) (by omega) hpl (show c ≤ 65536 by omega) (by omega))
      have HEV : Hid (∀ k, ev'.ownBlock = some k → w.heap.size ≤ k) := Lib.hid fun k hk => (World.ownsRow.lt he.row k hk).1
      have HB4 := Lib.hid hb4
      clear hl he hle hbs hrg hpl hus hen hm hb4 hL' hr hc
      refine HT.out.mono ?_
      rintro e w5 ⟨rfl, ev2, hl5, he5, hb5⟩
      have HL5 := Lib.hid hl5
      have HE5 := Lib.hid he5
      have HB5 := Lib.hid hb5
      clear hl5 he5 hb5
      go_wp2_with fail
      go_roundw
      case rel =>
        obtain ⟨hl, he, hle, hbs, hrg, hpl, hus, hen, hm⟩ := HE.out
        have hr := HRB.out
        have hc := HRS.out
        refine ⟨⟨HB5.out.os.trans HB4.out.os, HB5.out.tape.trans HB4.out.tape, HB5.out.output.trans HB4.out.output, Nat.le_trans HB4.out.size HB5.out.size, fun k hk hn => (HB5.out.block k (Nat.lt_of_lt_of_le hk HB4.out.size) (fun h => by
          rcases h with h | h
          · exact hn h
          · have := HEV.out k h; omega)).trans (HB4.out.block k hk hn)⟩, m, { s' with ents := s'.ents ++ [⟨s'.place, s'.last, c, data⟩], place := (s'.place + c) % s'.ring, used := s'.used + c, last := n }, ev2, _, HL5.out, HE5.out, ?_, hrg, ?_, ?_, ?_, ?_, HFN.out⟩
        · rw [List.map_append, hle]; rfl
        · have := Nat.mod_lt (s'.place + c) (show 0 < s'.ring by omega)
          show (s'.place + c) % s'.ring ≤ _
          omega
        · show s'.used + c ≤ _; omega
        · show (s'.ents ++ [_]).length ≤ s'.used + c
          simp
          omega
        · show s.ring - (s'.used + c) < m; omega
      case measure =>
        have h8 := HL5.out.cells.2.2.2.2.2.2.2.2.1
        rw [h8, HC8.out]
        have hc := HRS.out
        have hrg := HE.out.2.2.2.2.1
        simp
        omega
end Go.Proofs.Ytmkedanlpapndaa
