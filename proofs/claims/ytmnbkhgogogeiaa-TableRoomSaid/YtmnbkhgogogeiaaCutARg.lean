/-
  Cut to Next itself: all records go.
-/
import Derived.Test.YtmnbkhgogogeiaaSyncRg
namespace Go.Proofs.Ytmnbkhgogogeiaa
set_option linter.unusedVariables false
open Go.RowKit

set_option maxRecDepth 100000 in
set_option maxHeartbeats 4000000 in
theorem cut_all {B : Nat} {w0 w : World} {pl pd : Nat} {kv : Value} {s : LgS} {S : List (List Nat)} {W : List (Nat × List Nat)} (h : Lg B w0 w pl pd kv s S W) (hf : Fit s S W) (n : Nat) (h1 : s.first < n) (hx : s.first + s.ents.length = n) (x : Ent) (hxp : x.place = s.place) (hxl : x.behind = s.last) (hb : ∀ x ∈ s.ents, x.place ≤ 65536 ∧ x.behind ≤ 1000000000000 ∧ x.cells ≤ 65536)
    (hsum : sumC (s.ents.take (n - s.first)) ≤ s.used) :
    Calls Try.prog 45 #[.pointer (some ⟨pl, 0, none⟩), .int .u64 (n : Nat)] w fun e w' => e = .returned (.int .i64 0) ∧ Lg B w0 w' pl pd kv (cutS s n x) (cutD s n x (flushed S W)) [] ∧ LQ w w' := by
  have HH := Lib.hid h
  have HF := Lib.hid hf
  have HN := Lib.hid h.isnone
  have HF1 := Lib.hid h.firsts
  have HN1 := Lib.hid (h.nexts hf)
  have HSY := Lib.hid (sync_any h.drew)
  have HBD := Lib.hid hb
  have HSM := Lib.hid hsum
  have hg : n - s.first = s.ents.length := by omega
  have HG := Lib.hid (And.intro hg h1)
  have HXE := Lib.hid (And.intro hxp hxl)
  obtain ⟨gn, hgn⟩ : ∃ gn, n - s.first = gn := ⟨_, rfl⟩
  have b1 := hf.first
  have b2 := hf.ents
  have g1 : ¬ (n : Int) < (s.first : Int) := by omega
  obtain ⟨nx, hnx⟩ : ∃ nx, s.first + s.ents.length = nx := ⟨_, rfl⟩
  have g2 : ¬ (nx : Int) < (n : Int) := by omega
  have g3 : ((n : Int) == (s.first : Int)) = false := by simp; omega
  have g4 : (n : Int) - (s.first : Int) = (gn : Int) := by omega
  have g5 : (gn : Int) ≤ 65536 := by omega
  rw [hnx] at HN1
  have HGN := Lib.hid hgn
  clear h hf hb hsum hnx hg h1 hgn hx hxp hxl
  go_enter Try.func45, Try.ntmps45
  go_upto_region 11 with (first
    | (go_at_call 60; refine HN.out.mono ?_; rintro e w' ⟨rfl, rfl⟩)
    | (go_at_call 43; refine HF1.out.mono ?_; rintro e w' ⟨rfl, rfl⟩)
    | (go_at_call 42; refine HN1.out.mono ?_; rintro e w' ⟨rfl, rfl⟩)
    | (go_at_call 32; refine HSY.out.mono ?_; rintro e w2 ⟨rfl, hl2, hq2⟩; have HL2 := Lib.hid hl2; have HQ2 := Lib.hid hq2; have HF1 := Lib.hid hl2.firsts; clear hl2 hq2))
  clear HN HF1 HN1 HSY g1 g2 g3 g4
  obtain ⟨ev, L, hlg, hent, hLs⟩ := HL2.out.log
  obtain ⟨-, -, c2, -, -, -, -, c7, -, c9, -, -⟩ := hlg.cells
  have b3 := HF.out.version
  have b4 := HF.out.place
  have b5 := HF.out.bound
  have b6 := HF.out.last
  have HLG := Lib.hid hlg
  have HEN := Lib.hid hent
  have HLS := Lib.hid hLs
  obtain ⟨v1, hv1⟩ : ∃ v1, s.version + 1 = v1 := ⟨_, rfl⟩
  have e1 : (s.version : Int) + 1 = (v1 : Int) := by omega
  have hZ : Below w2.heap.size w2 (w2.alloc (.cells #[.int .u64 0, .int .u64 0, .int .u64 0, .int .u64 0] 88)).drew := ((Below.refl _ _).alloc (Nat.le_refl _) _).drew
  obtain ⟨-, -, y2, -, -, -, -, y7, -, y9, -, -⟩ := (hlg.qb (Below.qb hZ) (Nat.le_refl _)).cells
  clear hlg hent hLs hZ
  go_cut [7] (fun u wx => ∃ q, u = .pointer (some ⟨q, 0, none⟩) ∧ wx.heap[q]? = some (.cells #[.int .u64 (v1 : Nat), .int .u64 (n : Nat), .int .u64 (s.place : Nat), .int .u64 (s.last : Nat)] 88 (0, 0)) ∧ Below w2.heap.size w2 wx ∧ w2.heap.size ≤ q)
  case first =>
    go_region
    go_wp2_with fail
    go_meet
    exact ⟨w2.heap.size, rfl, heap_alloc_new w2 _, ((Below.refl _ _).alloc (Nat.le_refl _) _).drew, Nat.le_refl _⟩
  case rest =>
    obtain ⟨q, rfl, hbx, hbl, hqs⟩ := hcut
    rename World => w3
    have hl3 := HLG.out.qb (Below.qb hbl) (Nat.le_refl _)
    have he3 := HEN.out.qb (Below.qb hbl) (Nat.le_refl _)
    have HL3 := Lib.hid hl3
    have HE3 := Lib.hid he3
    have HD3 := Lib.hid (HL2.out.disk.below' hbl)
    have HQ3 : Hid (QB w.heap.size w w3) := Lib.hid ((show QB w.heap.size w w2 from ⟨HQ2.out.size, fun k cs t fr hk hh => HQ2.out.keep k cs t fr hk hh⟩).trans ((Below.qb hbl).mono HQ2.out.size))
    have HBX := Lib.hid hbx
    have HQS := Lib.hid hqs
    have hlen : L.length = s.ents.length := by rw [← HLS.out]; simp
    have hgnl : gn = L.length := by rw [hlen, ← HG.out.1]; exact HGN.out.symm
    obtain ⟨eg, ec, hev⟩ : ∃ eg ec, ev = .slice (some ⟨eg, 0, none⟩) L.length ec := by
      rcases he3.row.2 with ⟨e, h0⟩ | ⟨g, cap, cur, e, _⟩
      · have := HG.out
        omega
      · exact ⟨g, cap, e⟩
    subst hev
    obtain ⟨-, -, -, -, -, -, a6, -, -, -, -, -⟩ := hl3.cells
    have hgz : ¬ (gn : Int) < (L.length : Int) := by omega
    have hgz2 : decide ((gn : Int) < (L.length : Int)) = false := decide_eq_false hgz
    have bp : x.place ≤ 65536 := by rw [HXE.out.1]; omega
    have bb : x.behind ≤ 1000000000000 := by rw [HXE.out.2]; exact b6
    have HGL := Lib.hid hgnl
    have HLEN := Lib.hid hlen
    clear hgnl hlen
    clear hbx hbl hqs c2 c7 c9 y2 y7 y9 hl3 he3
    go_upto_region 14 with (fail)
    obtain ⟨w4, hw4, hbx4, hbs4⟩ : ∃ w4, w4 = w3 ∧ w4.heap[q]? = some (.cells #[.int .u64 (v1 : Nat), .int .u64 (n : Nat), .int .u64 (x.place : Nat), .int .u64 (x.behind : Nat)] 88 (0, 0)) ∧ Beside (fun k => k = q) w3 w4 := ⟨_, rfl, by rw [HXE.out.1, HXE.out.2]; exact HBX.out, Beside.refl _ _⟩
    rw [← hw4]
    clear hw4
    have hqs := HQS.out
    have hq4 : QB w.heap.size w w4 := HQ3.out.trans (hbs4.qb (fun k hk => by subst hk; exact Nat.le_trans HQ2.out.size hqs))
    have hqB : B ≤ q := Nat.le_trans (Nat.le_trans HH.out.disk.base HH.out.disk.below.size) (Nat.le_trans HQ2.out.size hqs)
    have hqpl : ¬ pl = q := fun e => HL3.out.ne HBX.out (by decide) e
    have hl4 : LgV w4 pl (.pointer (some ⟨pd, 0, none⟩)) (.slice (some ⟨eg, 0, none⟩) L.length ec) s false := HL3.out.beside hbs4 (fun e => hqpl e)
    have he4 : EntR w4 B (.slice (some ⟨eg, 0, none⟩) L.length ec) L := HE3.out.beside hbs4 (fun k hk cs t fr hh => by
      subst hk
      rw [HBX.out] at hh
      simp at hh
      rw [← hh.2.1]
      decide)
    have hd4 := HD3.out.beside2 hbs4 (fun k hk => by subst hk; exact ⟨_, _, _, HBX.out, by decide, by decide, by decide⟩) (fun k hk => by subst hk; exact hqB)
    have HQ4 := Lib.hid hq4
    have HL4 := Lib.hid hl4
    have HE4 := Lib.hid he4
    have HD4 := Lib.hid hd4
    have HBX4 := Lib.hid hbx4
    have hSS : ∀ W2 : World, LgV W2 pl (.pointer (some ⟨pd, 0, none⟩)) (.slice (some ⟨eg, 0, none⟩) L.length ec) s false → W2.heap[q]? = some (.cells #[.int .u64 (v1 : Nat), .int .u64 (n : Nat), .int .u64 (x.place : Nat), .int .u64 (x.behind : Nat)] 88 (0, 0)) → (fun w' : World => w'.cell? ⟨pl, 0, none⟩ = some (.pointer (some ⟨pd, 0, none⟩)) ∧ w'.cell? ⟨q, 0, none⟩ = some (.int .u64 (v1 : Nat)) ∧ w'.cell? ⟨q, 1, none⟩ = some (.int .u64 (n : Nat)) ∧ w'.cell? ⟨q, 2, none⟩ = some (.int .u64 (x.place : Nat)) ∧ w'.cell? ⟨q, 3, none⟩ = some (.int .u64 (x.behind : Nat))) W2 := fun W2 h1 h2 => by
      have fl := fun j => cell_of_row W2 q j _ _ _ h2
      exact ⟨h1.cells.1, fl 0, fl 1, fl 2, fl 3⟩
    have HSS := Lib.hid hSS
    have s0 := hSS w4.drew hl4.drew hbx4
    obtain ⟨r, hr⟩ : ∃ r, v1 % 2 = r := ⟨_, rfl⟩
    have hr2 : r ≤ 1 := by omega
    have hrem : (v1 : Int).tmod 2 = (r : Int) := by rw [Int.tmod_eq_emod_of_nonneg (by omega)]; omega
    have HR := Lib.hid hr
    have HR2 := Lib.hid hr2
    have HV1 := Lib.hid hv1
    have hv1b : v1 < 18446744073709551616 := by omega
    have hnb : n < 18446744073709551616 := by have := HGN.out; omega
    have hxp : x.place < 18446744073709551616 := by omega
    have hxb : x.behind < 18446744073709551616 := by omega
    clear hq4 hl4 he4 hd4 hbx4 hbs4 hSS hqs a6 hr hgz hgz2 e1
    have wr1 : IntKind.u64.wrap (r : Int) = (r : Int) := wraps_u64 _ (Int.natCast_nonneg _) (by omega)
    have wr2 : IntKind.i64.wrap (r : Int) = (r : Int) := wrap_small _ (Int.natCast_nonneg _) (by omega)
    refine wp_region_held_drew (S := (fun w' : World => w'.cell? ⟨pl, 0, none⟩ = some (.pointer (some ⟨pd, 0, none⟩)) ∧ w'.cell? ⟨q, 0, none⟩ = some (.int .u64 (v1 : Nat)) ∧ w'.cell? ⟨q, 1, none⟩ = some (.int .u64 (n : Nat)) ∧ w'.cell? ⟨q, 2, none⟩ = some (.int .u64 (x.place : Nat)) ∧ w'.cell? ⟨q, 3, none⟩ = some (.int .u64 (x.behind : Nat)))) (by kernel_rfl) s0 (fun hHeld => ?_)
    refine wpAnyH_take (i := 0) (oi := ⟨_, _, _, _, _, _⟩) (v := ?_) rfl (by kernel_rfl) (by kernel_rfl) (by kernel_rfl) (fun _ _ _ h => h) (Or.inl ⟨by rfl, ?_⟩) (by assumption) ?_
    rotate_left
    · intro w hSw; (try dsimp only at hSw); go_simp <;> with_reducible rfl
    simp only [Act.put, List.setIfInBounds_toArray, List.set_cons_zero, List.set_cons_succ]
    refine wpAnyH_take (i := 1) (oi := ⟨_, _, _, _, _, _⟩) (v := ?_) rfl (by kernel_rfl) (by kernel_rfl) (by kernel_rfl) (fun _ _ _ h => h) (Or.inl ⟨by rfl, ?_⟩) (by assumption) ?_
    rotate_left
    · intro w hSw; (try dsimp only at hSw); go_simp <;> with_reducible rfl
    simp only [Act.put, List.setIfInBounds_toArray, List.set_cons_zero, List.set_cons_succ]
    refine wpAnyH_take (i := 2) (oi := ⟨_, _, _, _, _, _⟩) (v := ?_) rfl (by kernel_rfl) (by kernel_rfl) (by kernel_rfl) (fun _ _ _ h => h) (Or.inl ⟨by rfl, ?_⟩) (by assumption) ?_
    rotate_left
    · intro w hSw; (try dsimp only at hSw); go_simp <;> with_reducible rfl
    simp only [Act.put, List.setIfInBounds_toArray, List.set_cons_zero, List.set_cons_succ]
    refine wpAnyH_take (i := 3) (oi := ⟨_, _, _, _, _, _⟩) (v := ?_) rfl (by kernel_rfl) (by kernel_rfl) (by kernel_rfl) (fun _ _ _ h => h) (Or.inl ⟨by rfl, ?_⟩) (by assumption) ?_
    rotate_left
    · intro w hSw; (try dsimp only at hSw); go_simp <;> with_reducible rfl
    simp only [Act.put, List.setIfInBounds_toArray, List.set_cons_zero, List.set_cons_succ]
    refine wpAnyH_take (i := 4) (oi := ⟨_, _, _, _, _, _⟩) (v := ?_) rfl (by kernel_rfl) (by kernel_rfl) (by kernel_rfl) (fun _ _ _ h => h) (Or.inl ⟨by rfl, ?_⟩) (by assumption) ?_
    rotate_left
    · intro w hSw; (try dsimp only at hSw); go_simp <;> with_reducible rfl
    simp only [Act.put, List.setIfInBounds_toArray, List.set_cons_zero, List.set_cons_succ]
    refine wpAnyH_take (i := 5) (oi := ⟨_, _, _, _, _, _⟩) (v := ?_) rfl (by kernel_rfl) (by kernel_rfl) (by kernel_rfl) (fun _ _ _ h => h) (Or.inl ⟨by rfl, ?_⟩) (by assumption) ?_
    rotate_left
    · intro w hSw; (try dsimp only at hSw); go_simp <;> with_reducible rfl
    simp only [Act.put, List.setIfInBounds_toArray, List.set_cons_zero, List.set_cons_succ]
    clear wr1 wr2 hrem
    refine wpAnyH_ready (rs := [6]) (by kernel_rfl) (by simp) ?_
    refine AllReadyH.cons (o := ⟨_, _, _, _, _, _⟩) rfl (fun K hK => ?_) AllReadyH.nil
    go_simp
    go_wp2_with (go_at_call 73; refine (head_bytes v1 n x.place x.behind hv1b hnb hxp hxb).mono ?_; rintro e w5 ⟨g, rfl, hr, hg, hb⟩; have HR5 := Lib.hid hr; have HG5 : Hid (w4.heap.size ≤ g) := Lib.hid hg; have HB5 : Hid (Below w4.heap.size w4 w5) := Lib.hid (((Below.refl w4.heap.size w4).drew).trans hb); clear hr hg hb)
    have HQ5 : Hid (QB w4.heap.size w4 w5) := Lib.hid (Below.qb HB5.out)
    have HL5 := Lib.hid (HL4.out.qb HQ5.out (Nat.le_refl _))
    have HX5 : Hid (w5.heap[q]? = some (.cells #[.int .u64 (v1 : Nat), .int .u64 (n : Nat), .int .u64 (x.place : Nat), .int .u64 (x.behind : Nat)] 88 (0, 0))) := Lib.hid ((HB5.out.block q (lt_of_block HBX4.out)).trans HBX4.out)
    have HD5 := Lib.hid (HD4.out.below' (w' := w5) HB5.out)
    refine hK.out _ _ (HSS.out w5 HL5.out HX5.out) (fun hHeld2 => ?_)
    clear hK K
    have HWA := Lib.hid (write_any HD5.out ⟨_, HL5.out, rfl⟩ r (by rw [flushed_len, HF.out.disk]; have := HF.out.ring; have := HR2.out; omega) HR5.out (headL_length _ _ _ _) (headL_lt _ _ _ _) (by decide) (Nat.le_trans (Nat.le_trans HH.out.disk.base HH.out.disk.below.size) (Nat.le_trans HQ4.out.size HG5.out)))
    refine wpAnyH_ready (rs := [7]) (by kernel_rfl) (by simp) ?_
    refine AllReadyH.cons (o := ⟨_, _, _, _, _, _⟩) rfl (fun K hK => ?_) AllReadyH.nil
    go_simp
    go_wp2_with (go_at_call 72; refine HWA.out.mono ?_; rintro e w6 ⟨rfl, hd6, hq6⟩; have HD6 := Lib.hid hd6; have HQ6 : Hid (QB w4.heap.size w4 w6) := Lib.hid (HQ5.out.trans (hq6.mono HG5.out)); clear hd6 hq6)
    have HL6 := Lib.hid (HL4.out.qb HQ6.out (Nat.le_refl _))
    have HX6 : Hid (w6.heap[q]? = some (.cells #[.int .u64 (v1 : Nat), .int .u64 (n : Nat), .int .u64 (x.place : Nat), .int .u64 (x.behind : Nat)] 88 (0, 0))) := Lib.hid (HQ6.out.keep q _ _ _ (lt_of_block HBX4.out) HBX4.out (by decide) (by decide) (by decide))
    refine hK.out _ _ (HSS.out w6 HL6.out HX6.out) (fun hHeld3 => ?_)
    clear hK K HWA
    refine wpAnyH_take (i := 8) (oi := ⟨_, _, _, _, _, _⟩) (v := ?_) rfl (by kernel_rfl) (by kernel_rfl) (by kernel_rfl) (fun _ _ _ h => h) (Or.inl ⟨by rfl, ?_⟩) (by assumption) ?_
    rotate_left
    · intro w hSw; (try dsimp only at hSw); go_simp <;> with_reducible rfl
    simp only [Act.put, List.setIfInBounds_toArray, List.set_cons_zero, List.set_cons_succ]
    refine wpAnyH_take (i := 9) (oi := ⟨_, _, _, _, _, _⟩) (v := ?_) rfl (by kernel_rfl) (by kernel_rfl) (by kernel_rfl) (fun _ _ _ h => h) (Or.inl ⟨by rfl, ?_⟩) (by assumption) ?_
    rotate_left
    · intro w hSw; (try dsimp only at hSw); go_simp <;> with_reducible rfl
    simp only [Act.put, List.setIfInBounds_toArray, List.set_cons_zero, List.set_cons_succ]
    refine wpAnyH_take (i := 10) (oi := ⟨_, _, _, _, _, _⟩) (v := ?_) rfl (by kernel_rfl) (by kernel_rfl) (by kernel_rfl) (fun _ _ _ h => h) (Or.inl ⟨by rfl, ?_⟩) (by assumption) ?_
    rotate_left
    · intro w hSw; (try dsimp only at hSw); go_simp <;> with_reducible rfl
    simp only [Act.put, List.setIfInBounds_toArray, List.set_cons_zero, List.set_cons_succ]
    refine wpAnyH_take (i := 11) (oi := ⟨_, _, _, _, _, _⟩) (v := ?_) rfl (by kernel_rfl) (by kernel_rfl) (by kernel_rfl) (fun _ _ _ h => h) (Or.inl ⟨by rfl, ?_⟩) (by assumption) ?_
    rotate_left
    · intro w hSw; (try dsimp only at hSw); go_simp <;> with_reducible rfl
    simp only [Act.put, List.setIfInBounds_toArray, List.set_cons_zero, List.set_cons_succ]
    refine wpAnyH_take (i := 12) (oi := ⟨_, _, _, _, _, _⟩) (v := ?_) rfl (by kernel_rfl) (by kernel_rfl) (by kernel_rfl) (fun _ _ _ h => h) (Or.inl ⟨by rfl, ?_⟩) (by assumption) ?_
    rotate_left
    · intro w hSw; (try dsimp only at hSw); go_simp <;> with_reducible rfl
    simp only [Act.put, List.setIfInBounds_toArray, List.set_cons_zero, List.set_cons_succ]
    refine wpAnyH_take (i := 13) (oi := ⟨_, _, _, _, _, _⟩) (v := ?_) rfl (by kernel_rfl) (by kernel_rfl) (by kernel_rfl) (fun _ _ _ h => h) (Or.inl ⟨by rfl, ?_⟩) (by assumption) ?_
    rotate_left
    · intro w hSw; (try dsimp only at hSw); go_simp <;> with_reducible rfl
    simp only [Act.put, List.setIfInBounds_toArray, List.set_cons_zero, List.set_cons_succ]
    have HFL := Lib.hid (flush_qb HD6.out w4.heap.size)
    refine wpAnyH_ready (rs := [14]) (by kernel_rfl) (by simp) ?_
    refine AllReadyH.cons (o := ⟨_, _, _, _, _, _⟩) rfl (fun K hK => ?_) AllReadyH.nil
    go_simp
    go_wp2_with (go_at_call 61; refine HFL.out.mono ?_; rintro e w7 ⟨rfl, hd7, hq7⟩; have HD7 := Lib.hid hd7; have HQ7 : Hid (QB w4.heap.size w4 w7) := Lib.hid (HQ6.out.trans hq7); clear hd7 hq7)
    have HL7 := Lib.hid (HL4.out.qb HQ7.out (Nat.le_refl _))
    have HX7 : Hid (w7.heap[q]? = some (.cells #[.int .u64 (v1 : Nat), .int .u64 (n : Nat), .int .u64 (x.place : Nat), .int .u64 (x.behind : Nat)] 88 (0, 0))) := Lib.hid (HQ7.out.keep q _ _ _ (lt_of_block HBX4.out) HBX4.out (by decide) (by decide) (by decide))
    refine hK.out _ _ (HSS.out w7 HL7.out HX7.out) (fun hHeld4 => ?_)
    clear hK K HFL
    refine wpAnyH_take (i := 15) (oi := ⟨_, _, _, _, _, _⟩) (v := ?_) rfl (by kernel_rfl) (by kernel_rfl) (by kernel_rfl) (fun _ _ _ h => h) (Or.inl ⟨by rfl, ?_⟩) (by assumption) ?_
    rotate_left
    · intro w hSw; (try dsimp only at hSw); go_simp <;> with_reducible rfl
    simp only [Act.put, List.setIfInBounds_toArray, List.set_cons_zero, List.set_cons_succ]
    refine wpAnyH_take (i := 16) (oi := ⟨_, _, _, _, _, _⟩) (v := ?_) rfl (by kernel_rfl) (by kernel_rfl) (by kernel_rfl) (fun _ _ _ h => h) (Or.inl ⟨by rfl, ?_⟩) (by assumption) ?_
    rotate_left
    · intro w hSw; (try dsimp only at hSw); go_simp <;> with_reducible rfl
    simp only [Act.put, List.setIfInBounds_toArray, List.set_cons_zero, List.set_cons_succ]
    refine wpAnyH_done (by kernel_rfl) ?_ _
    clear hHeld hHeld2 hHeld3 hHeld4 s0
    have HU : Hid (s.used ≤ 65534) := Lib.hid (Nat.le_trans HF.out.used HF.out.bound)
    have HLQ : Hid (LQ w w7) := Lib.hid ((HQ4.out.lq (Nat.le_refl _)).trans (HQ7.out.lq (Nat.le_refl _)))
    obtain ⟨-, -, -, -, -, -, z6, -, -, -, -, -⟩ := HL7.out.cells
    have hgc : (gn : Int) ≤ (ec : Int) := by
      have h1 := HGL.out
      rcases HE7_row (HE4.out.qb HQ7.out (Nat.le_refl _)) with h2
      omega
    have HE7 := Lib.hid (HE4.out.qb HQ7.out (Nat.le_refl _))
    go_wp2_with fail
    clear z6 hgc
    go_loopw [105] (fun i wr => ∃ k : Nat, k ≤ gn ∧ i = .int .i64 (k : Nat) ∧ LgV wr pl (.pointer (some ⟨pd, 0, none⟩)) (.slice (some ⟨eg, 0, none⟩) L.length ec) { s with used := s.used - sumC (s.ents.take k) } false ∧ EntR wr B (.slice (some ⟨eg, 0, none⟩) L.length ec) L ∧ wr.heap[q]? = some (.cells #[.int .u64 (v1 : Nat), .int .u64 (n : Nat), .int .u64 (x.place : Nat), .int .u64 (x.behind : Nat)] 88 (0, 0)) ∧ Held B w0 wr pd kv (flushed (flushed S W) ([] ++ [(r, sealL (headL v1 n x.place x.behind) (shown (flushed S W) [] r))])) [] 0 false ∧ LQ w7 wr) (fun i _ => gn - (RowKit.intOf i).toNat)
    case atStart => exact ⟨0, Nat.zero_le _, rfl, by simpa [sumC] using HL7.out, HE7.out, HX7.out, HD7.out, LQ.refl _⟩
    case round =>
      obtain ⟨k, hk, rfl, hlr, her, hxr, hdr, hqr⟩ := hrel
      have HLR := Lib.hid hlr
      have HER := Lib.hid her
      have HXR := Lib.hid hxr
      have HDR := Lib.hid hdr
      have HQR := Lib.hid hqr
      by_cases hkn : k < gn
      · have hkz : (k : Int) < (gn : Int) := by omega
        have hkl : k < L.length := by rw [← HGL.out]; exact hkn
        have hke : k < s.ents.length := by rw [← HLS.out]; simpa using hkl
        have hLk : (L[k]).1 = s.ents[k] := by have := HLS.out; simp [← this]
        obtain ⟨y, hy⟩ : ∃ y, s.ents[k] = y := ⟨_, rfl⟩
        obtain ⟨k0, k1, k2, k3⟩ := ent_cell her k hkl
        obtain ⟨da, dc, hdv⟩ : ∃ da dc, (L[k]).2 = .slice da (L[k]).1.data.length dc := (her.own _ (List.getElem_mem hkl)).shape
        rw [hdv] at k3
        rw [hLk, hy] at k0 k1 k2 k3
        generalize y.data.length = dl at *
        obtain ⟨u, hu⟩ : ∃ u, s.used - sumC (s.ents.take k) = u := ⟨_, rfl⟩
        obtain ⟨u2, hu2⟩ : ∃ u2, s.used - sumC (s.ents.take (k + 1)) = u2 := ⟨_, rfl⟩
        have hnx := sumC_next s.ents k hke
        rw [hy] at hnx
        have hmono := sumC_take_le s.ents (k + 1) gn hkn
        have hsm := HSM.out
        rw [HGN.out] at hsm
        have hsub : (u : Int) - (y.cells : Int) = (u2 : Int) := by omega
        have hub : u ≤ 65534 := by have := HU.out; omega
        have hyb : y.cells ≤ 65536 := (HBD.out y (by rw [← hy]; exact List.getElem_mem hke)).2.2
        have HU2 := Lib.hid hu2
        rw [hu] at HLR hlr
        obtain ⟨-, -, -, -, -, -, -, -, a8, -, -, -⟩ := hlr.cells
        simp only at a8
        have f8 := hlr.free 8
        have hlc : ¬ (pl = wr.heap.size) := fun e => by have := lt_of_block hlr; omega
        have hlc2 : ¬ (wr.heap.size = pl) := fun e => hlc e.symm
        have HKN := Lib.hid hkn
        obtain ⟨Z, hZ, hZb, hbZ⟩ : ∃ Z, Z = wr.alloc (.cells #[.int .i64 (y.place : Nat), .int .u64 (y.behind : Nat), .int .i64 (y.cells : Nat), .slice da dl dc] 98) ∧ Z.heap[wr.heap.size]? = some (.cells #[.int .i64 (y.place : Nat), .int .u64 (y.behind : Nat), .int .i64 (y.cells : Nat), .slice da dl dc] 98 (0, 0)) ∧ Below wr.heap.size wr Z :=
          ⟨_, rfl, heap_alloc_new wr _, (Below.refl _ _).alloc (Nat.le_refl _) _⟩
        clear hlr her hxr hdr hqr hu hu2 hnx hmono hsm hke hLk hy hdv
        go_upto_region 19 with (fail)
        rw [← hZ]
        clear hZ a8 f8 k0 k1 k2 k3
        have hlz := HLR.out.qb (Below.qb hbZ) (Nat.le_refl _)
        have hez := HER.out.qb (Below.qb hbZ) (Nat.le_refl _)
        have hxz := (hbZ.block q (lt_of_block HXR.out)).trans HXR.out
        have hdz := HDR.out.below' hbZ
        have hqz := HQR.out.trans ((Below.qb hbZ).lq (Nat.le_refl _))
        obtain ⟨-, -, -, -, -, -, -, -, a8, -, -, -⟩ := hlz.cells
        simp only at a8
        have f8 := hlz.free 8
        have t2 := cell_of_row Z wr.heap.size 2 _ _ _ hZb
        simp only [List.getElem?_toArray, List.getElem?_cons_zero, List.getElem?_cons_succ] at t2
        have hbs : Beside (fun k => k = pl) Z (Z.setCell ⟨pl, 8, none⟩ (.int .i64 (u2 : Nat))).drew := ((Beside.refl (fun k => k = pl) Z).setCell (p := ⟨pl, 8, none⟩) (.inl rfl) _).drew
        have hqpl : ¬ q = pl := fun e => hlz.ne hxz (by decide) e.symm
        have HLZ := Lib.hid (hlz.set8 u2).drew
        have HEZ := Lib.hid (hez.set hlz 8 (.int .i64 (u2 : Nat))).drew
        have HXZ := Lib.hid ((hbs.block q (lt_of_block hxz) hqpl).trans hxz)
        have HDZ := Lib.hid (hdz.beside2 hbs (fun k hk => by subst hk; exact ⟨_, _, _, hlz, by decide, by decide, by decide⟩) (fun k hk => by subst hk; exact HH.out.base))
        have HQZ := Lib.hid (hqz.trans (LQ.beside hbs (fun k hk cs t fr hh => by
          subst hk
          rw [show Z.heap[k]? = _ from hlz] at hh
          simp at hh
          exact .inl hh.2.1.symm)))
        clear hlz hez hxz hdz hqz hbs hqpl hZb hbZ
        go_wp2_with go_region
        go_roundw
        case rel =>
          refine ⟨k + 1, HKN.out, by go_num, ?_, HEZ.out, HXZ.out, HDZ.out, HQZ.out⟩
          rw [HU2.out]
          exact HLZ.out
        case measure => simp [intOf]; omega
      · obtain rfl : k = gn := by omega
        obtain ⟨-, -, -, -, -, -, a6, -, -, -, -, -⟩ := hlr.cells
        obtain ⟨hec, -⟩ := HE7_row her
        have hkl := HGL.out
        have hkz : (k : Int) ≤ (L.length : Int) := by omega
        obtain ⟨ca, hca⟩ : ∃ ca, (if ec = k then (some ⟨eg, 0, none⟩ : Option Addr) else some ⟨eg, k * 4, none⟩) = some ca := by
          by_cases h : ec = k
          · exact ⟨_, by rw [if_pos h]⟩
          · exact ⟨_, by rw [if_neg h]⟩
        have hkc : (k : Int) ≤ (ec : Int) := by omega
        have hlb : L.length ≤ 65536 := by rw [HLEN.out]; exact HF.out.ents
        have hdrop : (ecells (L.drop k)).length = (L.length - k) * 4 := by rw [ecells_length]; simp
        have HCE := Lib.hid (clone_ents ca (L.length - k) (ec - k) (ecells (L.drop k)) wr hdrop (fun j u hj => by
          have := (List.getElem?_eq_some_iff.1 hj).1
          omega) (ecells_one _ (fun y hy => by
            obtain ⟨ya, yc, e⟩ := (her.own y (List.mem_of_mem_drop hy)).shape
            rw [e]; rfl)) (by omega))
        have f6 := hlr.free 6
        clear hlr her hxr hdr hqr hkn hk hkl hdrop
        have hqpl2 : ¬ q = pl := fun e => HLR.out.ne HXR.out (by decide) e.symm
        have hqpl3 : ¬ pl = q := fun e => hqpl2 e.symm
        go_wp2_with (first
          | (go_at_call 74; refine HCE.out.mono ?_; rintro e w8 ⟨o, rfl, ho, hb⟩
             have HO8 := Lib.hid ho
             have HB8 := Lib.hid hb
             have hl8 := HLR.out.qb (Below.qb hb) (Nat.le_refl _)
             have hx8 := (hb.block q (lt_of_block HXR.out)).trans HXR.out
             obtain ⟨oa, oc, rfl⟩ : ∃ oa oc, o = .slice oa (L.length - k) oc := own_shape ho
             obtain ⟨-, -, j2, j3, j4, j5, j6, -, -, -, -, -⟩ := hl8.cells
             simp only at j2 j3 j4 j5 j6
             have p2 := hl8.free 2
             have p3 := hl8.free 3
             have p4 := hl8.free 4
             have p5 := hl8.free 5
             have p6 := hl8.free 6
             have y0 := cell_of_row w8 q 0 _ _ _ hx8
             have y1 := cell_of_row w8 q 1 _ _ _ hx8
             have y2 := cell_of_row w8 q 2 _ _ _ hx8
             have y3 := cell_of_row w8 q 3 _ _ _ hx8
             simp only [List.getElem?_toArray, List.getElem?_cons_zero, List.getElem?_cons_succ] at y0 y1 y2 y3
             have HL8 := Lib.hid hl8
             clear ho hb hl8 hx8))
        obtain ⟨w9, hw9, hbs9, hlg9⟩ : ∃ w9, w9 = (((((w8.setCell ⟨pl, 6, none⟩ (.slice oa (L.length - k) oc)).setCell ⟨pl, 2, none⟩ (.int .u64 (v1 : Nat))).setCell ⟨pl, 3, none⟩ (.int .u64 (n : Nat))).setCell ⟨pl, 4, none⟩ (.int .u64 (x.place : Nat))).setCell ⟨pl, 5, none⟩ (.int .u64 (x.behind : Nat))) ∧
            Beside (fun k => k = pl) w8 w9 ∧ LgV w9 pl (.pointer (some ⟨pd, 0, none⟩)) (.slice oa (L.length - k) oc) (cutS s n x) false := by
          refine ⟨_, rfl, (((((Beside.refl (fun k => k = pl) w8).setCell (p := ⟨pl, 6, none⟩) (.inl rfl) _).setCell (p := ⟨pl, 2, none⟩) (.inl rfl) _).setCell (p := ⟨pl, 3, none⟩) (.inl rfl) _).setCell (p := ⟨pl, 4, none⟩) (.inl rfl) _).setCell (p := ⟨pl, 5, none⟩) (.inl rfl) _, ?_⟩
          have e0 := HL8.out
          have e1 := heap_setCell_same w8 pl 6 _ 91 (.slice oa (L.length - k) oc) e0
          have e2 := heap_setCell_same _ pl 2 _ 91 (.int .u64 (v1 : Nat)) e1
          have e3 := heap_setCell_same _ pl 3 _ 91 (.int .u64 (n : Nat)) e2
          have e4 := heap_setCell_same _ pl 4 _ 91 (.int .u64 (x.place : Nat)) e3
          have e5 := heap_setCell_same _ pl 5 _ 91 (.int .u64 (x.behind : Nat)) e4
          unfold LgV cutS
          rw [e5]
          simp only [HV1.out, HGN.out]
          rfl
        rw [← hw9]
        clear hw9
        go_ret
        have hqB : B ≤ wr.heap.size := Nat.le_trans HDR.out.base HDR.out.below.size
        have he8 : EntR w8 B (.slice oa (L.length - k) oc) (L.drop k) := by
          refine ⟨?_, fun y hy => (Below.qb HB8.out).own (Nat.le_refl _) (HER.out.own y (List.mem_of_mem_drop hy))⟩
          have h1 := rows_mono HO8.out hqB
          rwa [show L.length - k = (L.drop k).length by simp] at h1 ⊢
        have he9 := he8.beside hbs9 (fun i hi cs t fr hh => by
          subst hi
          rw [show w8.heap[i]? = _ from HL8.out] at hh
          simp at hh
          rw [← hh.2.1]
          decide)
        have hd9 := (HDR.out.below' HB8.out).beside2 hbs9 (fun i hi => by subst hi; exact ⟨_, _, _, HL8.out, by decide, by decide, by decide⟩) (fun i hi => by subst hi; exact HH.out.base)
        refine ⟨rfl, ⟨?_, ⟨_, _, hlg9, he9, ?_⟩, HH.out.base⟩, ?_⟩
        · unfold cutD
          rw [HV1.out, HR.out]
          exact hd9
        · unfold cutS
          rw [List.map_drop, HLS.out, HGN.out]
        · refine ((HLQ.out.trans HQR.out).trans ((Below.qb HB8.out).lq (Nat.le_refl _))).trans (LQ.beside hbs9 (fun i hi cs t fr hh => ?_))
          subst hi
          rw [show w8.heap[i]? = _ from HL8.out] at hh
          simp at hh
          exact .inl hh.2.1.symm
end Go.Proofs.Ytmnbkhgogogeiaa
