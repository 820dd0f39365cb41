/-
  Sync; Cut, of a healthy log.
-/
import Derived.Test.YtmnbkhgogogeiaaAppRg
namespace Go.Proofs.Ytmnbkhgogogeiaa
set_option linter.unusedVariables false
open Go.RowKit

theorem Lg.isnone {B : Nat} {w0 w : World} {pl pd : Nat} {kv : Value} {s : LgS} {S : List (List Nat)} {W : List (Nat × List Nat)} (h : Lg B w0 w pl pd kv s S W) : Calls Try.prog 60 #[.pointer (some ⟨pl, 0, none⟩)] w fun e w' => e = .returned (.bool false) ∧ w = w' := by
  obtain ⟨ev, L, hlg, -, -⟩ := h.log
  exact none_ok hlg
theorem Lg.firsts {B : Nat} {w0 w : World} {pl pd : Nat} {kv : Value} {s : LgS} {S : List (List Nat)} {W : List (Nat × List Nat)} (h : Lg B w0 w pl pd kv s S W) : Calls Try.prog 43 #[.pointer (some ⟨pl, 0, none⟩)] w fun e w' => e = .returned (.int .u64 (s.first : Nat)) ∧ w = w' := by
  obtain ⟨ev, L, hlg, -, -⟩ := h.log
  exact first_ok hlg
theorem Lg.nexts {B : Nat} {w0 w : World} {pl pd : Nat} {kv : Value} {s : LgS} {S : List (List Nat)} {W : List (Nat × List Nat)} (h : Lg B w0 w pl pd kv s S W) (hf : Fit s S W) : Calls Try.prog 42 #[.pointer (some ⟨pl, 0, none⟩)] w fun e w' => e = .returned (.int .u64 (s.first + s.ents.length : Nat)) ∧ w.drew = w' := by
  obtain ⟨ev, L, hlg, he, hL⟩ := h.log
  have h1 := hf.ents
  have e : L.length = s.ents.length := by rw [← hL]; simp
  have := next_ok hlg he (by omega) hf.first
  rwa [e] at this
theorem Lg.qb {B : Nat} {w0 w w' : World} {pl pd : Nat} {kv : Value} {s : LgS} {S S2 : List (List Nat)} {W W2 : List (Nat × List Nat)} (h : Lg B w0 w pl pd kv s S W) (hd : Held B w0 w' pd kv S2 W2 0 false) (hq : QB w.heap.size w w') : Lg B w0 w' pl pd kv s S2 W2 := by
  obtain ⟨ev, L, hlg, he, hL⟩ := h.log
  exact ⟨hd, ⟨ev, L, hlg.qb hq (Nat.le_refl _), he.qb hq (Nat.le_refl _), hL⟩, h.base⟩
theorem Lg.below {B : Nat} {w0 w w' : World} {pl pd : Nat} {kv : Value} {s : LgS} {S : List (List Nat)} {W : List (Nat × List Nat)} (h : Lg B w0 w pl pd kv s S W) (hb : Below w.heap.size w w') : Lg B w0 w' pl pd kv s S W :=
  h.qb (h.disk.below' hb) (Below.qb hb)
theorem Lg.drew {B : Nat} {w0 w : World} {pl pd : Nat} {kv : Value} {s : LgS} {S : List (List Nat)} {W : List (Nat × List Nat)} (h : Lg B w0 w pl pd kv s S W) : Lg B w0 w.drew pl pd kv s S W := h.below (Below.refl _ _).drew

set_option maxRecDepth 100000 in
theorem sync_any {B : Nat} {w0 w : World} {pl pd : Nat} {kv : Value} {s : LgS} {S : List (List Nat)} {W : List (Nat × List Nat)} (h : Lg B w0 w pl pd kv s S W) :
    Calls Try.prog 32 #[.pointer (some ⟨pl, 0, none⟩)] w fun e w' => e = .returned (.int .i64 0) ∧ Lg B w0 w' pl pd kv s (flushed S W) [] ∧ QB w.heap.size w w' := by
  have HH := Lib.hid h
  have HN := Lib.hid h.isnone
  have HFL := Lib.hid (flush_qb h.disk w.heap.size)
  obtain ⟨ev, L, hlg, -, -⟩ := h.log
  obtain ⟨c0, c1, c2, c3, c4, c5, c6, c7, c8, c9, c10, c11⟩ := hlg.cells
  clear h hlg
  go_enter Try.func32, Try.ntmps32
  go_wp2_with (first
    | (go_at_call 60; refine HN.out.mono ?_; rintro e w' ⟨rfl, rfl⟩)
    | (go_at_call 61; refine HFL.out.mono ?_; rintro e w2 ⟨rfl, hd2, hq2⟩; have HD2 := Lib.hid hd2; have HQ2 := Lib.hid hq2; clear hd2 hq2))
  go_ret
  exact ⟨rfl, HH.out.qb HD2.out HQ2.out, HQ2.out⟩

def sumC (l : List Ent) : Nat := (l.map (·.cells)).sum
def cutS (s : LgS) (n : Nat) (x : Ent) : LgS := { s with version := s.version + 1, first := n, hplace := x.place, hbehind := x.behind, ents := s.ents.drop (n - s.first), used := s.used - sumC (s.ents.take (n - s.first)) }
def cutD (s : LgS) (n : Nat) (x : Ent) (S : List (List Nat)) : List (List Nat) := flushed S [((s.version + 1) % 2, sealL (headL (s.version + 1) n x.place x.behind) (shown S [] ((s.version + 1) % 2)))]

set_option maxHeartbeats 1000000 in
theorem clone_ents (a : Addr) (n cap : Nat) (xs : List Value) (w : World) (hl : xs.length = n * 4) (hcell : ∀ j u, xs[j]? = some u → w.cell? (a.add j) = some u) (h1 : ∀ u ∈ xs, u.oneCell' = true) (hn : n ≤ 1000000) :
    Calls Try.prog 74 #[.slice (some a) n cap] w fun e w' => ∃ o, e = .returned o ∧ w'.ownsRow w.heap.size 98 4 o n xs ∧ Below w.heap.size w w' := by
  obtain ⟨i0, hi, hz0, hz1, hz2⟩ := info_parts Try.info98
  have he := fun (w : World) => Lib.run_eql_slice_nil (P := Try.prog) w 89 98 (some a) n cap 0 0 Try.underlying89
  have hown0 := World.ownsRow_lit (base := w.heap.size) (e := 98) (size := 4) w #[] 0 (Nat.le_refl _) (by decide) rfl
  have hnews : ∀ j u, xs[j]? = some u → (w.alloc (.cells #[] 98)).cell? (a.add j) = some u := by
    intro j u hj
    have hx := hcell j u hj
    rw [Below.cell ((Below.refl w.heap.size w).alloc (Nat.le_refl _) _) (World.block_lt_of_cell? w _ hx)]
    exact hx
  have Hnews := Lib.hid hnews
  have Hl := Lib.hid hl
  have H1 := Lib.hid h1
  clear hnews hl h1 hcell
  go_enter Try.func74, Try.ntmps74
  go_wp2_with (at_builtin; go_loud (refine wpList_append_own _ rfl (.tmp 5) (.tmp 6) 89 rfl (w.heap.size) 98 i0 _ 4 48 Try.underlying89 hi hz0 hz1 hz2 rfl (by decide) _ _ _ rfl hown0 a n cap xs rfl Hl.out Hnews.out H1.out (by simp [maxLen]; omega) (by simp; omega) (by simp) ?_))
  intro o w1 ho hgr _
  go_wp2_with fail
  go_ret
  refine ⟨_, rfl, ?_, ?_⟩
  · simpa using ho
  · exact ((Below.refl _ _).alloc (Nat.le_refl _) _).grown hgr (by simp) (by intro k hk; simp [Value.ownBlock] at hk; omega)
theorem HE7_row {w : World} {B g n cap : Nat} {L : List (Ent × Value)} (h : EntR w B (.slice (some ⟨g, 0, none⟩) n cap) L) : n ≤ cap ∧ n = L.length := by
  rcases h.row.2 with ⟨e, _⟩ | ⟨g', cap', cur, e, _, _, hn, _⟩
  · simp at e
  · simp only [Value.slice.injEq, Option.some.injEq, Addr.mk.injEq, and_true] at e
    obtain ⟨_, e2, e3⟩ := e
    omega
theorem sumC_take_le (l : List Ent) (k m : Nat) (h : k ≤ m) : sumC (l.take k) ≤ sumC (l.take m) := by
  have : (l.take m).take k = l.take k := by rw [List.take_take, Nat.min_eq_left h]
  rw [← this]
  generalize l.take m = l2
  unfold sumC
  have e : l2 = l2.take k ++ l2.drop k := (List.take_append_drop k l2).symm
  conv => rhs; rw [e]
  rw [List.map_append, List.sum_append]
  omega
theorem sumC_next (l : List Ent) (k : Nat) (h : k < l.length) : sumC (l.take (k + 1)) = sumC (l.take k) + (l[k]).cells := by
  unfold sumC
  rw [List.take_succ_eq_append_getElem h, List.map_append, List.sum_append]
  simp
theorem ents_drop {w : World} {B g n cap : Nat} {L : List (Ent × Value)} (h : EntR w B (.slice (some ⟨g, 0, none⟩) n cap) L) (k : Nat) (hk : k ≤ L.length) (j : Nat) (u : Value) (hj : (ecells (L.drop k))[j]? = some u) : w.cell? ⟨g, k * 4 + j, none⟩ = some u := by
  have e2 : ecells L = ecells (L.take k) ++ ecells (L.drop k) := by rw [← ecells_append, List.take_append_drop]
  have hl : (ecells (L.take k)).length = k * 4 := by rw [ecells_length]; simp; omega
  have hj2 : (ecells L)[k * 4 + j]? = some u := by rw [e2, List.getElem?_append_right (by omega), hl, show k * 4 + j - k * 4 = j by omega]; exact hj
  have hlt : k * 4 + j < L.length * 4 := by have := (List.getElem?_eq_some_iff.1 hj2).1; rwa [ecells_length] at this
  rcases h.row.2 with ⟨e, _⟩ | ⟨g', cap', cur, e, hb, hh, hn, hm, hs, ht⟩
  · simp at e
  · simp only [Value.slice.injEq, Option.some.injEq, Addr.mk.injEq, and_true] at e
    obtain ⟨rfl, rfl, rfl⟩ := e
    rw [cell_of_row _ _ _ _ 98 (0, 0) hh]
    rw [← ht, List.getElem?_take_of_lt hlt] at hj2
    simpa using hj2
theorem rows_mono {w : World} {B C : Nat} {t : TypeId} {sz n : Nat} {v : Value} {xs : List Value} (h : w.ownsRow B t sz v n xs) (hc : C ≤ B) : w.ownsRow C t sz v n xs := by
  refine ⟨h.1, ?_⟩
  rcases h.2 with h2 | ⟨g, cap, cur, e, hg, r⟩
  · exact .inl h2
  · exact .inr ⟨g, cap, cur, e, Nat.le_trans hc hg, r⟩
theorem flushed_len (S : List (List Nat)) (W : List (Nat × List Nat)) : (flushed S W).length = S.length := by
  unfold flushed
  induction W generalizing S with
  | nil => rfl
  | cons x r ih => rw [List.foldl_cons, ih, putN_len]
theorem be_lt (n v : Nat) : ∀ x ∈ be n v, x < 256 := by
  induction n with
  | zero => simp [be]
  | succ n ih =>
    intro x hx
    rcases List.mem_cons.1 hx with rfl | hx
    · omega
    · exact ih x hx
theorem putAt_lt {l : List Nat} {o : Nat} {d : List Nat} (hl : ∀ n ∈ l, n < 256) (hd : ∀ n ∈ d, n < 256) : ∀ n ∈ putAt l o d, n < 256 := by
  intro n hn
  unfold putAt at hn
  rcases List.mem_append.1 hn with hn | hn
  · rcases List.mem_append.1 hn with hn | hn
    · exact hl n (List.mem_of_mem_take hn)
    · exact hd n hn
  · exact hl n (List.mem_of_mem_drop hn)
theorem headL_lt (a b c d : Nat) : ∀ n ∈ headL a b c d, n < 256 := by
  unfold headL
  refine putAt_lt (putAt_lt (putAt_lt (putAt_lt ?_ (be_lt _ _)) (be_lt _ _)) (be_lt _ _)) (be_lt _ _)
  intro n hn
  have := List.eq_of_mem_replicate hn
  omega
theorem ecells_get (L : List (Ent × Value)) (k : Nat) (h : k < L.length) : (ecells L)[k * 4]? = some (.int .i64 ((L[k]).1.place : Nat)) ∧ (ecells L)[k * 4 + 1]? = some (.int .u64 ((L[k]).1.behind : Nat)) ∧ (ecells L)[k * 4 + 2]? = some (.int .i64 ((L[k]).1.cells : Nat)) ∧ (ecells L)[k * 4 + 3]? = some (L[k]).2 := by
  have e : L = L.take k ++ L[k] :: L.drop (k + 1) := by rw [List.getElem_cons_drop, List.take_append_drop]
  have e2 : ecells L = ecells (L.take k) ++ (ecell L[k] ++ ecells (L.drop (k + 1))) := by
    conv => lhs; rw [e]
    rw [ecells_append]
    congr 1
  have hl : (ecells (L.take k)).length = k * 4 := by rw [ecells_length]; simp; omega
  rw [e2]
  refine ⟨?_, ?_, ?_, ?_⟩
  · rw [List.getElem?_append_right (by omega), hl, Nat.sub_self]; rfl
  · rw [List.getElem?_append_right (by omega), hl, show k * 4 + 1 - k * 4 = 1 by omega]; rfl
  · rw [List.getElem?_append_right (by omega), hl, show k * 4 + 2 - k * 4 = 2 by omega]; rfl
  · rw [List.getElem?_append_right (by omega), hl, show k * 4 + 3 - k * 4 = 3 by omega]; rfl
theorem ent_cell {w : World} {B g n cap : Nat} {L : List (Ent × Value)} (h : EntR w B (.slice (some ⟨g, 0, none⟩) n cap) L) (k : Nat) (hk : k < L.length) :
    w.cell? ⟨g, k * 4, none⟩ = some (.int .i64 ((L[k]).1.place : Nat)) ∧ w.cell? ⟨g, k * 4 + 1, none⟩ = some (.int .u64 ((L[k]).1.behind : Nat)) ∧ w.cell? ⟨g, k * 4 + 2, none⟩ = some (.int .i64 ((L[k]).1.cells : Nat)) ∧ w.cell? ⟨g, k * 4 + 3, none⟩ = some (L[k]).2 := by
  obtain ⟨e0, e1, e2, e3⟩ := ecells_get L k hk
  have hr := h.row
  have hlt : ∀ i, i < 4 → k * 4 + i < L.length * 4 := fun i hi => by omega
  rcases hr.2 with ⟨e, _⟩ | ⟨g', cap', cur, e, hb, hh, hn, hm, hs, ht⟩
  · simp at e
  · simp only [Value.slice.injEq, Option.some.injEq, Addr.mk.injEq, and_true] at e
    obtain ⟨rfl, rfl, rfl⟩ := e
    have hc : ∀ i v, i < 4 → (ecells L)[k * 4 + i]? = some v → w.cell? ⟨g, k * 4 + i, none⟩ = some v := fun i v hi hv => by
      rw [cell_of_row _ _ _ _ 98 (0, 0) hh]
      rw [← ht, List.getElem?_take_of_lt (hlt i hi)] at hv
      simpa using hv
    exact ⟨hc 0 _ (by decide) e0, hc 1 _ (by decide) e1, hc 2 _ (by decide) e2, hc 3 _ (by decide) e3⟩
set_option maxRecDepth 100000 in
set_option maxHeartbeats 4000000 in
theorem cut_any {B : Nat} {w0 w : World} {pl pd : Nat} {kv : Value} {s : LgS} {S : List (List Nat)} {W : List (Nat × List Nat)} (h : Lg B w0 w pl pd kv s S W) (hf : Fit s S W) (n : Nat) (h1 : s.first < n) (x : Ent) (hx : s.ents[n - s.first]? = some x) (hb : ∀ x ∈ s.ents, x.place ≤ 65536 ∧ x.behind ≤ 1000000000000 ∧ x.cells ≤ 65536)
    (hsum : sumC (s.ents.take (n - s.first)) ≤ s.used) :
    Calls Try.prog 45 #[.pointer (some ⟨pl, 0, none⟩), .int .u64 (n : Nat)] w fun e w' => e = .returned (.int .i64 0) ∧ Lg B w0 w' pl pd kv (cutS s n x) (cutD s n x (flushed S W)) [] ∧ LQ w w' := by
  have HH := Lib.hid h
  have HF := Lib.hid hf
  have HN := Lib.hid h.isnone
  have HF1 := Lib.hid h.firsts
  have HN1 := Lib.hid (h.nexts hf)
  have HSY := Lib.hid (sync_any h.drew)
  have HBD := Lib.hid hb
  have HSM := Lib.hid hsum
  have hg := (List.getElem?_eq_some_iff.1 hx).1
  have HX := Lib.hid hx
  obtain ⟨gn, hgn⟩ : ∃ gn, n - s.first = gn := ⟨_, rfl⟩
  have b1 := hf.first
  have b2 := hf.ents
  have g1 : ¬ (n : Int) < (s.first : Int) := by omega
  obtain ⟨nx, hnx⟩ : ∃ nx, s.first + s.ents.length = nx := ⟨_, rfl⟩
  have g2 : ¬ (nx : Int) < (n : Int) := by omega
  have g3 : ((n : Int) == (s.first : Int)) = false := by simp; omega
  have g4 : (n : Int) - (s.first : Int) = (gn : Int) := by omega
  have g5 : (gn : Int) ≤ 65536 := by omega
  rw [hnx] at HN1
  have HGN := Lib.hid hgn
  clear h hf hb hsum hnx hg h1 hgn hx
  go_enter Try.func45, Try.ntmps45
  go_upto_region 11 with (first
    | (go_at_call 60; refine HN.out.mono ?_; rintro e w' ⟨rfl, rfl⟩)
    | (go_at_call 43; refine HF1.out.mono ?_; rintro e w' ⟨rfl, rfl⟩)
    | (go_at_call 42; refine HN1.out.mono ?_; rintro e w' ⟨rfl, rfl⟩)
    | (go_at_call 32; refine HSY.out.mono ?_; rintro e w2 ⟨rfl, hl2, hq2⟩; have HL2 := Lib.hid hl2; have HQ2 := Lib.hid hq2; have HF1 := Lib.hid hl2.firsts; clear hl2 hq2))
  clear HN HF1 HN1 HSY g1 g2 g3 g4
  obtain ⟨ev, L, hlg, hent, hLs⟩ := HL2.out.log
  obtain ⟨-, -, c2, -, -, -, -, c7, -, c9, -, -⟩ := hlg.cells
  have b3 := HF.out.version
  have b4 := HF.out.place
  have b5 := HF.out.bound
  have b6 := HF.out.last
  have HLG := Lib.hid hlg
  have HEN := Lib.hid hent
  have HLS := Lib.hid hLs
  obtain ⟨v1, hv1⟩ : ∃ v1, s.version + 1 = v1 := ⟨_, rfl⟩
  have e1 : (s.version : Int) + 1 = (v1 : Int) := by omega
  have hZ : Below w2.heap.size w2 (w2.alloc (.cells #[.int .u64 0, .int .u64 0, .int .u64 0, .int .u64 0] 88)).drew := ((Below.refl _ _).alloc (Nat.le_refl _) _).drew
  obtain ⟨-, -, y2, -, -, -, -, y7, -, y9, -, -⟩ := (hlg.qb (Below.qb hZ) (Nat.le_refl _)).cells
  clear hlg hent hLs hZ
  go_cut [7] (fun u wx => ∃ q, u = .pointer (some ⟨q, 0, none⟩) ∧ wx.heap[q]? = some (.cells #[.int .u64 (v1 : Nat), .int .u64 (n : Nat), .int .u64 (s.place : Nat), .int .u64 (s.last : Nat)] 88 (0, 0)) ∧ Below w2.heap.size w2 wx ∧ w2.heap.size ≤ q)
  case first =>
    go_region
    go_wp2_with fail
    go_meet
    exact ⟨w2.heap.size, rfl, heap_alloc_new w2 _, ((Below.refl _ _).alloc (Nat.le_refl _) _).drew, Nat.le_refl _⟩
  case rest =>
    obtain ⟨q, rfl, hbx, hbl, hqs⟩ := hcut
    rename World => w3
    have hl3 := HLG.out.qb (Below.qb hbl) (Nat.le_refl _)
    have he3 := HEN.out.qb (Below.qb hbl) (Nat.le_refl _)
    have HL3 := Lib.hid hl3
    have HE3 := Lib.hid he3
    have HD3 := Lib.hid (HL2.out.disk.below' hbl)
    have HQ3 : Hid (QB w.heap.size w w3) := Lib.hid ((show QB w.heap.size w w2 from ⟨HQ2.out.size, fun k cs t fr hk hh => HQ2.out.keep k cs t fr hk hh⟩).trans ((Below.qb hbl).mono HQ2.out.size))
    have HBX := Lib.hid hbx
    have HQS := Lib.hid hqs
    have hlen : L.length = s.ents.length := by rw [← HLS.out]; simp
    obtain ⟨eg, ec, hev⟩ : ∃ eg ec, ev = .slice (some ⟨eg, 0, none⟩) L.length ec := by
      rcases he3.row.2 with ⟨e, h0⟩ | ⟨g, cap, cur, e, _⟩
      · have h2 := HX.out
        rw [HGN.out] at h2
        have h3 := (List.getElem?_eq_some_iff.1 h2).1
        omega
      · exact ⟨g, cap, e⟩
    subst hev
    have hgnl : gn < L.length := by
      have h2 := HX.out
      rw [HGN.out] at h2
      have h3 := (List.getElem?_eq_some_iff.1 h2).1
      omega
    obtain ⟨-, -, -, -, -, -, a6, -, -, -, -, -⟩ := hl3.cells
    have hcl := ent_cell he3 gn hgnl
    have hLx : (L[gn]).1 = x := by
      have h2 := HX.out
      rw [HGN.out, ← HLS.out] at h2
      obtain ⟨h3, h4⟩ := List.getElem?_eq_some_iff.1 h2
      simpa using h4
    rw [hLx] at hcl
    obtain ⟨k0, k1, -, -⟩ := hcl
    have hgz : (gn : Int) < (L.length : Int) := by omega
    have q2 := cell_of_row w3 q 2 _ _ _ hbx
    have q3 := cell_of_row w3 q 3 _ _ _ hbx
    have qf2 := frozen_of_row w3 q 2 _ _ hbx
    have qf3 := frozen_of_row w3 q 3 _ _ hbx
    obtain ⟨bp, bb, -⟩ := HBD.out x (List.mem_of_getElem? HX.out)
    have HGL := Lib.hid hgnl
    have HLEN := Lib.hid hlen
    clear hLx hgnl hlen
    clear hbx hbl hqs c2 c7 c9 y2 y7 y9 hl3 he3
    go_upto_region 14 with (first | go_region)
    obtain ⟨w4, hw4, hbx4, hbs4⟩ : ∃ w4, w4 = ((w3.setCell ⟨q, 2, none⟩ (.int .u64 (x.place : Nat))).setCell ⟨q, 3, none⟩ (.int .u64 (x.behind : Nat))).drew ∧ w4.heap[q]? = some (.cells #[.int .u64 (v1 : Nat), .int .u64 (n : Nat), .int .u64 (x.place : Nat), .int .u64 (x.behind : Nat)] 88 (0, 0)) ∧ Beside (fun k => k = q) w3 w4 := by
      refine ⟨_, rfl, ?_, ((((Beside.refl (fun k => k = q) w3).setCell (p := ⟨q, 2, none⟩) (.inl rfl) (.int .u64 (x.place : Nat))).setCell (p := ⟨q, 3, none⟩) (.inl rfl) (.int .u64 (x.behind : Nat)))).drew⟩
      have h1 := heap_setCell_same w3 q 2 _ 88 (.int .u64 (x.place : Nat)) HBX.out
      exact heap_setCell_same _ q 3 _ 88 (.int .u64 (x.behind : Nat)) h1
    rw [← hw4]
    clear hw4
    have hqs := HQS.out
    have hq4 : QB w.heap.size w w4 := HQ3.out.trans (hbs4.qb (fun k hk => by subst hk; exact Nat.le_trans HQ2.out.size hqs))
    have hqB : B ≤ q := Nat.le_trans (Nat.le_trans HH.out.disk.base HH.out.disk.below.size) (Nat.le_trans HQ2.out.size hqs)
    have hqpl : ¬ pl = q := fun e => HL3.out.ne HBX.out (by decide) e
    have hl4 : LgV w4 pl (.pointer (some ⟨pd, 0, none⟩)) (.slice (some ⟨eg, 0, none⟩) L.length ec) s false := HL3.out.beside hbs4 (fun e => hqpl e)
    have he4 : EntR w4 B (.slice (some ⟨eg, 0, none⟩) L.length ec) L := HE3.out.beside hbs4 (fun k hk cs t fr hh => by
      subst hk
      rw [HBX.out] at hh
      simp at hh
      rw [← hh.2.1]
      decide)
    have hd4 := HD3.out.beside2 hbs4 (fun k hk => by subst hk; exact ⟨_, _, _, HBX.out, by decide, by decide, by decide⟩) (fun k hk => by subst hk; exact hqB)
    have HQ4 := Lib.hid hq4
    have HL4 := Lib.hid hl4
    have HE4 := Lib.hid he4
    have HD4 := Lib.hid hd4
    have HBX4 := Lib.hid hbx4
    have hSS : ∀ W2 : World, LgV W2 pl (.pointer (some ⟨pd, 0, none⟩)) (.slice (some ⟨eg, 0, none⟩) L.length ec) s false → W2.heap[q]? = some (.cells #[.int .u64 (v1 : Nat), .int .u64 (n : Nat), .int .u64 (x.place : Nat), .int .u64 (x.behind : Nat)] 88 (0, 0)) → (fun w' : World => w'.cell? ⟨pl, 0, none⟩ = some (.pointer (some ⟨pd, 0, none⟩)) ∧ w'.cell? ⟨q, 0, none⟩ = some (.int .u64 (v1 : Nat)) ∧ w'.cell? ⟨q, 1, none⟩ = some (.int .u64 (n : Nat)) ∧ w'.cell? ⟨q, 2, none⟩ = some (.int .u64 (x.place : Nat)) ∧ w'.cell? ⟨q, 3, none⟩ = some (.int .u64 (x.behind : Nat))) W2 := fun W2 h1 h2 => by
      have fl := fun j => cell_of_row W2 q j _ _ _ h2
      exact ⟨h1.cells.1, fl 0, fl 1, fl 2, fl 3⟩
    have HSS := Lib.hid hSS
    have s0 := hSS w4.drew hl4.drew hbx4
    obtain ⟨r, hr⟩ : ∃ r, v1 % 2 = r := ⟨_, rfl⟩
    have hr2 : r ≤ 1 := by omega
    have hrem : (v1 : Int).tmod 2 = (r : Int) := by rw [Int.tmod_eq_emod_of_nonneg (by omega)]; omega
    have HR := Lib.hid hr
    have HR2 := Lib.hid hr2
    have HV1 := Lib.hid hv1
    have hv1b : v1 < 18446744073709551616 := by omega
    have hnb : n < 18446744073709551616 := by have := HGN.out; omega
    have hxp : x.place < 18446744073709551616 := by omega
    have hxb : x.behind < 18446744073709551616 := by omega
    clear hq4 hl4 he4 hd4 hbx4 hbs4 hSS hqs k0 k1 q2 q3 qf2 qf3 a6 hr hgz e1
    have wr1 : IntKind.u64.wrap (r : Int) = (r : Int) := wraps_u64 _ (Int.natCast_nonneg _) (by omega)
    have wr2 : IntKind.i64.wrap (r : Int) = (r : Int) := wrap_small _ (Int.natCast_nonneg _) (by omega)
    refine wp_region_held_drew (S := (fun w' : World => w'.cell? ⟨pl, 0, none⟩ = some (.pointer (some ⟨pd, 0, none⟩)) ∧ w'.cell? ⟨q, 0, none⟩ = some (.int .u64 (v1 : Nat)) ∧ w'.cell? ⟨q, 1, none⟩ = some (.int .u64 (n : Nat)) ∧ w'.cell? ⟨q, 2, none⟩ = some (.int .u64 (x.place : Nat)) ∧ w'.cell? ⟨q, 3, none⟩ = some (.int .u64 (x.behind : Nat)))) (by kernel_rfl) s0 (fun hHeld => ?_)
    refine wpAnyH_take (i := 0) (oi := ⟨_, _, _, _, _, _⟩) (v := ?_) rfl (by kernel_rfl) (by kernel_rfl) (by kernel_rfl) (fun _ _ _ h => h) (Or.inl ⟨by rfl, ?_⟩) (by assumption) ?_
    rotate_left
    · intro w hSw; (try dsimp only at hSw); go_simp <;> with_reducible rfl
    simp only [Act.put, List.setIfInBounds_toArray, List.set_cons_zero, List.set_cons_succ]
    refine wpAnyH_take (i := 1) (oi := ⟨_, _, _, _, _, _⟩) (v := ?_) rfl (by kernel_rfl) (by kernel_rfl) (by kernel_rfl) (fun _ _ _ h => h) (Or.inl ⟨by rfl, ?_⟩) (by assumption) ?_
    rotate_left
    · intro w hSw; (try dsimp only at hSw); go_simp <;> with_reducible rfl
    simp only [Act.put, List.setIfInBounds_toArray, List.set_cons_zero, List.set_cons_succ]
    refine wpAnyH_take (i := 2) (oi := ⟨_, _, _, _, _, _⟩) (v := ?_) rfl (by kernel_rfl) (by kernel_rfl) (by kernel_rfl) (fun _ _ _ h => h) (Or.inl ⟨by rfl, ?_⟩) (by assumption) ?_
    rotate_left
    · intro w hSw; (try dsimp only at hSw); go_simp <;> with_reducible rfl
    simp only [Act.put, List.setIfInBounds_toArray, List.set_cons_zero, List.set_cons_succ]
    refine wpAnyH_take (i := 3) (oi := ⟨_, _, _, _, _, _⟩) (v := ?_) rfl (by kernel_rfl) (by kernel_rfl) (by kernel_rfl) (fun _ _ _ h => h) (Or.inl ⟨by rfl, ?_⟩) (by assumption) ?_
    rotate_left
    · intro w hSw; (try dsimp only at hSw); go_simp <;> with_reducible rfl
    simp only [Act.put, List.setIfInBounds_toArray, List.set_cons_zero, List.set_cons_succ]
    refine wpAnyH_take (i := 4) (oi := ⟨_, _, _, _, _, _⟩) (v := ?_) rfl (by kernel_rfl) (by kernel_rfl) (by kernel_rfl) (fun _ _ _ h => h) (Or.inl ⟨by rfl, ?_⟩) (by assumption) ?_
    rotate_left
    · intro w hSw; (try dsimp only at hSw); go_simp <;> with_reducible rfl
    simp only [Act.put, List.setIfInBounds_toArray, List.set_cons_zero, List.set_cons_succ]
    refine wpAnyH_take (i := 5) (oi := ⟨_, _, _, _, _, _⟩) (v := ?_) rfl (by kernel_rfl) (by kernel_rfl) (by kernel_rfl) (fun _ _ _ h => h) (Or.inl ⟨by rfl, ?_⟩) (by assumption) ?_
    rotate_left
    · intro w hSw; (try dsimp only at hSw); go_simp <;> with_reducible rfl
    simp only [Act.put, List.setIfInBounds_toArray, List.set_cons_zero, List.set_cons_succ]
    clear wr1 wr2 hrem
    refine wpAnyH_ready (rs := [6]) (by kernel_rfl) (by simp) ?_
    refine AllReadyH.cons (o := ⟨_, _, _, _, _, _⟩) rfl (fun K hK => ?_) AllReadyH.nil
    go_simp
    go_wp2_with (go_at_call 73; refine (head_bytes v1 n x.place x.behind hv1b hnb hxp hxb).mono ?_; rintro e w5 ⟨g, rfl, hr, hg, hb⟩; have HR5 := Lib.hid hr; have HG5 : Hid (w4.heap.size ≤ g) := Lib.hid hg; have HB5 : Hid (Below w4.heap.size w4 w5) := Lib.hid (((Below.refl w4.heap.size w4).drew).trans hb); clear hr hg hb)
    have HQ5 : Hid (QB w4.heap.size w4 w5) := Lib.hid (Below.qb HB5.out)
    have HL5 := Lib.hid (HL4.out.qb HQ5.out (Nat.le_refl _))
    have HX5 : Hid (w5.heap[q]? = some (.cells #[.int .u64 (v1 : Nat), .int .u64 (n : Nat), .int .u64 (x.place : Nat), .int .u64 (x.behind : Nat)] 88 (0, 0))) := Lib.hid ((HB5.out.block q (lt_of_block HBX4.out)).trans HBX4.out)
    have HD5 := Lib.hid (HD4.out.below' (w' := w5) HB5.out)
    refine hK.out _ _ (HSS.out w5 HL5.out HX5.out) (fun hHeld2 => ?_)
    clear hK K
    have HWA := Lib.hid (write_any HD5.out ⟨_, HL5.out, rfl⟩ r (by rw [flushed_len, HF.out.disk]; have := HF.out.ring; have := HR2.out; omega) HR5.out (headL_length _ _ _ _) (headL_lt _ _ _ _) (by decide) (Nat.le_trans (Nat.le_trans HH.out.disk.base HH.out.disk.below.size) (Nat.le_trans HQ4.out.size HG5.out)))
    refine wpAnyH_ready (rs := [7]) (by kernel_rfl) (by simp) ?_
    refine AllReadyH.cons (o := ⟨_, _, _, _, _, _⟩) rfl (fun K hK => ?_) AllReadyH.nil
    go_simp
    go_wp2_with (go_at_call 72; refine HWA.out.mono ?_; rintro e w6 ⟨rfl, hd6, hq6⟩; have HD6 := Lib.hid hd6; have HQ6 : Hid (QB w4.heap.size w4 w6) := Lib.hid (HQ5.out.trans (hq6.mono HG5.out)); clear hd6 hq6)
    have HL6 := Lib.hid (HL4.out.qb HQ6.out (Nat.le_refl _))
    have HX6 : Hid (w6.heap[q]? = some (.cells #[.int .u64 (v1 : Nat), .int .u64 (n : Nat), .int .u64 (x.place : Nat), .int .u64 (x.behind : Nat)] 88 (0, 0))) := Lib.hid (HQ6.out.keep q _ _ _ (lt_of_block HBX4.out) HBX4.out (by decide) (by decide) (by decide))
    refine hK.out _ _ (HSS.out w6 HL6.out HX6.out) (fun hHeld3 => ?_)
    clear hK K HWA
    refine wpAnyH_take (i := 8) (oi := ⟨_, _, _, _, _, _⟩) (v := ?_) rfl (by kernel_rfl) (by kernel_rfl) (by kernel_rfl) (fun _ _ _ h => h) (Or.inl ⟨by rfl, ?_⟩) (by assumption) ?_
    rotate_left
    · intro w hSw; (try dsimp only at hSw); go_simp <;> with_reducible rfl
    simp only [Act.put, List.setIfInBounds_toArray, List.set_cons_zero, List.set_cons_succ]
    refine wpAnyH_take (i := 9) (oi := ⟨_, _, _, _, _, _⟩) (v := ?_) rfl (by kernel_rfl) (by kernel_rfl) (by kernel_rfl) (fun _ _ _ h => h) (Or.inl ⟨by rfl, ?_⟩) (by assumption) ?_
    rotate_left
    · intro w hSw; (try dsimp only at hSw); go_simp <;> with_reducible rfl
    simp only [Act.put, List.setIfInBounds_toArray, List.set_cons_zero, List.set_cons_succ]
    refine wpAnyH_take (i := 10) (oi := ⟨_, _, _, _, _, _⟩) (v := ?_) rfl (by kernel_rfl) (by kernel_rfl) (by kernel_rfl) (fun _ _ _ h => h) (Or.inl ⟨by rfl, ?_⟩) (by assumption) ?_
    rotate_left
    · intro w hSw; (try dsimp only at hSw); go_simp <;> with_reducible rfl
    simp only [Act.put, List.setIfInBounds_toArray, List.set_cons_zero, List.set_cons_succ]
    refine wpAnyH_take (i := 11) (oi := ⟨_, _, _, _, _, _⟩) (v := ?_) rfl (by kernel_rfl) (by kernel_rfl) (by kernel_rfl) (fun _ _ _ h => h) (Or.inl ⟨by rfl, ?_⟩) (by assumption) ?_
    rotate_left
    · intro w hSw; (try dsimp only at hSw); go_simp <;> with_reducible rfl
    simp only [Act.put, List.setIfInBounds_toArray, List.set_cons_zero, List.set_cons_succ]
    refine wpAnyH_take (i := 12) (oi := ⟨_, _, _, _, _, _⟩) (v := ?_) rfl (by kernel_rfl) (by kernel_rfl) (by kernel_rfl) (fun _ _ _ h => h) (Or.inl ⟨by rfl, ?_⟩) (by assumption) ?_
    rotate_left
    · intro w hSw; (try dsimp only at hSw); go_simp <;> with_reducible rfl
    simp only [Act.put, List.setIfInBounds_toArray, List.set_cons_zero, List.set_cons_succ]
    refine wpAnyH_take (i := 13) (oi := ⟨_, _, _, _, _, _⟩) (v := ?_) rfl (by kernel_rfl) (by kernel_rfl) (by kernel_rfl) (fun _ _ _ h => h) (Or.inl ⟨by rfl, ?_⟩) (by assumption) ?_
    rotate_left
    · intro w hSw; (try dsimp only at hSw); go_simp <;> with_reducible rfl
    simp only [Act.put, List.setIfInBounds_toArray, List.set_cons_zero, List.set_cons_succ]
    have HFL := Lib.hid (flush_qb HD6.out w4.heap.size)
    refine wpAnyH_ready (rs := [14]) (by kernel_rfl) (by simp) ?_
    refine AllReadyH.cons (o := ⟨_, _, _, _, _, _⟩) rfl (fun K hK => ?_) AllReadyH.nil
    go_simp
    go_wp2_with (go_at_call 61; refine HFL.out.mono ?_; rintro e w7 ⟨rfl, hd7, hq7⟩; have HD7 := Lib.hid hd7; have HQ7 : Hid (QB w4.heap.size w4 w7) := Lib.hid (HQ6.out.trans hq7); clear hd7 hq7)
    have HL7 := Lib.hid (HL4.out.qb HQ7.out (Nat.le_refl _))
    have HX7 : Hid (w7.heap[q]? = some (.cells #[.int .u64 (v1 : Nat), .int .u64 (n : Nat), .int .u64 (x.place : Nat), .int .u64 (x.behind : Nat)] 88 (0, 0))) := Lib.hid (HQ7.out.keep q _ _ _ (lt_of_block HBX4.out) HBX4.out (by decide) (by decide) (by decide))
    refine hK.out _ _ (HSS.out w7 HL7.out HX7.out) (fun hHeld4 => ?_)
    clear hK K HFL
    refine wpAnyH_take (i := 15) (oi := ⟨_, _, _, _, _, _⟩) (v := ?_) rfl (by kernel_rfl) (by kernel_rfl) (by kernel_rfl) (fun _ _ _ h => h) (Or.inl ⟨by rfl, ?_⟩) (by assumption) ?_
    rotate_left
    · intro w hSw; (try dsimp only at hSw); go_simp <;> with_reducible rfl
    simp only [Act.put, List.setIfInBounds_toArray, List.set_cons_zero, List.set_cons_succ]
    refine wpAnyH_take (i := 16) (oi := ⟨_, _, _, _, _, _⟩) (v := ?_) rfl (by kernel_rfl) (by kernel_rfl) (by kernel_rfl) (fun _ _ _ h => h) (Or.inl ⟨by rfl, ?_⟩) (by assumption) ?_
    rotate_left
    · intro w hSw; (try dsimp only at hSw); go_simp <;> with_reducible rfl
    simp only [Act.put, List.setIfInBounds_toArray, List.set_cons_zero, List.set_cons_succ]
    refine wpAnyH_done (by kernel_rfl) ?_ _
    clear hHeld hHeld2 hHeld3 hHeld4 s0
    have HU : Hid (s.used ≤ 65534) := Lib.hid (Nat.le_trans HF.out.used HF.out.bound)
    have HLQ : Hid (LQ w w7) := Lib.hid ((HQ4.out.lq (Nat.le_refl _)).trans (HQ7.out.lq (Nat.le_refl _)))
    obtain ⟨-, -, -, -, -, -, z6, -, -, -, -, -⟩ := HL7.out.cells
    have hgc : (gn : Int) ≤ (ec : Int) := by
      have h1 := HGL.out
      rcases HE7_row (HE4.out.qb HQ7.out (Nat.le_refl _)) with h2
      omega
    have HE7 := Lib.hid (HE4.out.qb HQ7.out (Nat.le_refl _))
    go_wp2_with fail
    clear z6 hgc
    go_loopw [105] (fun i wr => ∃ k : Nat, k ≤ gn ∧ i = .int .i64 (k : Nat) ∧ LgV wr pl (.pointer (some ⟨pd, 0, none⟩)) (.slice (some ⟨eg, 0, none⟩) L.length ec) { s with used := s.used - sumC (s.ents.take k) } false ∧ EntR wr B (.slice (some ⟨eg, 0, none⟩) L.length ec) L ∧ wr.heap[q]? = some (.cells #[.int .u64 (v1 : Nat), .int .u64 (n : Nat), .int .u64 (x.place : Nat), .int .u64 (x.behind : Nat)] 88 (0, 0)) ∧ Held B w0 wr pd kv (flushed (flushed S W) ([] ++ [(r, sealL (headL v1 n x.place x.behind) (shown (flushed S W) [] r))])) [] 0 false ∧ LQ w7 wr) (fun i _ => gn - (RowKit.intOf i).toNat)
    case atStart => exact ⟨0, Nat.zero_le _, rfl, by simpa [sumC] using HL7.out, HE7.out, HX7.out, HD7.out, LQ.refl _⟩
    case round =>
      obtain ⟨k, hk, rfl, hlr, her, hxr, hdr, hqr⟩ := hrel
      have HLR := Lib.hid hlr
      have HER := Lib.hid her
      have HXR := Lib.hid hxr
      have HDR := Lib.hid hdr
      have HQR := Lib.hid hqr
      by_cases hkn : k < gn
      · have hkz : (k : Int) < (gn : Int) := by omega
        have hkl : k < L.length := Nat.lt_trans hkn HGL.out
        have hke : k < s.ents.length := by rw [← HLS.out]; simpa using hkl
        have hLk : (L[k]).1 = s.ents[k] := by have := HLS.out; simp [← this]
        obtain ⟨y, hy⟩ : ∃ y, s.ents[k] = y := ⟨_, rfl⟩
        obtain ⟨k0, k1, k2, k3⟩ := ent_cell her k hkl
        obtain ⟨da, dc, hdv⟩ : ∃ da dc, (L[k]).2 = .slice da (L[k]).1.data.length dc := (her.own _ (List.getElem_mem hkl)).shape
        rw [hdv] at k3
        rw [hLk, hy] at k0 k1 k2 k3
        generalize y.data.length = dl at *
        obtain ⟨u, hu⟩ : ∃ u, s.used - sumC (s.ents.take k) = u := ⟨_, rfl⟩
        obtain ⟨u2, hu2⟩ : ∃ u2, s.used - sumC (s.ents.take (k + 1)) = u2 := ⟨_, rfl⟩
        have hnx := sumC_next s.ents k hke
        rw [hy] at hnx
        have hmono := sumC_take_le s.ents (k + 1) gn hkn
        have hsm := HSM.out
        rw [HGN.out] at hsm
        have hsub : (u : Int) - (y.cells : Int) = (u2 : Int) := by omega
        have hub : u ≤ 65534 := by have := HU.out; omega
        have hyb : y.cells ≤ 65536 := (HBD.out y (by rw [← hy]; exact List.getElem_mem hke)).2.2
        have HU2 := Lib.hid hu2
        rw [hu] at HLR hlr
        obtain ⟨-, -, -, -, -, -, -, -, a8, -, -, -⟩ := hlr.cells
        simp only at a8
        have f8 := hlr.free 8
        have hlc : ¬ (pl = wr.heap.size) := fun e => by have := lt_of_block hlr; omega
        have hlc2 : ¬ (wr.heap.size = pl) := fun e => hlc e.symm
        have HKN := Lib.hid hkn
        obtain ⟨Z, hZ, hZb, hbZ⟩ : ∃ Z, Z = wr.alloc (.cells #[.int .i64 (y.place : Nat), .int .u64 (y.behind : Nat), .int .i64 (y.cells : Nat), .slice da dl dc] 98) ∧ Z.heap[wr.heap.size]? = some (.cells #[.int .i64 (y.place : Nat), .int .u64 (y.behind : Nat), .int .i64 (y.cells : Nat), .slice da dl dc] 98 (0, 0)) ∧ Below wr.heap.size wr Z :=
          ⟨_, rfl, heap_alloc_new wr _, (Below.refl _ _).alloc (Nat.le_refl _) _⟩
        clear hlr her hxr hdr hqr hu hu2 hnx hmono hsm hke hLk hy hdv
        go_upto_region 19 with (fail)
        rw [← hZ]
        clear hZ a8 f8 k0 k1 k2 k3
        have hlz := HLR.out.qb (Below.qb hbZ) (Nat.le_refl _)
        have hez := HER.out.qb (Below.qb hbZ) (Nat.le_refl _)
        have hxz := (hbZ.block q (lt_of_block HXR.out)).trans HXR.out
        have hdz := HDR.out.below' hbZ
        have hqz := HQR.out.trans ((Below.qb hbZ).lq (Nat.le_refl _))
        obtain ⟨-, -, -, -, -, -, -, -, a8, -, -, -⟩ := hlz.cells
        simp only at a8
        have f8 := hlz.free 8
        have t2 := cell_of_row Z wr.heap.size 2 _ _ _ hZb
        simp only [List.getElem?_toArray, List.getElem?_cons_zero, List.getElem?_cons_succ] at t2
        have hbs : Beside (fun k => k = pl) Z (Z.setCell ⟨pl, 8, none⟩ (.int .i64 (u2 : Nat))).drew := ((Beside.refl (fun k => k = pl) Z).setCell (p := ⟨pl, 8, none⟩) (.inl rfl) _).drew
        have hqpl : ¬ q = pl := fun e => hlz.ne hxz (by decide) e.symm
        have HLZ := Lib.hid (hlz.set8 u2).drew
        have HEZ := Lib.hid (hez.set hlz 8 (.int .i64 (u2 : Nat))).drew
        have HXZ := Lib.hid ((hbs.block q (lt_of_block hxz) hqpl).trans hxz)
        have HDZ := Lib.hid (hdz.beside2 hbs (fun k hk => by subst hk; exact ⟨_, _, _, hlz, by decide, by decide, by decide⟩) (fun k hk => by subst hk; exact HH.out.base))
        have HQZ := Lib.hid (hqz.trans (LQ.beside hbs (fun k hk cs t fr hh => by
          subst hk
          rw [show Z.heap[k]? = _ from hlz] at hh
          simp at hh
          exact .inl hh.2.1.symm)))
        clear hlz hez hxz hdz hqz hbs hqpl hZb hbZ
        go_wp2_with go_region
        go_roundw
        case rel =>
          refine ⟨k + 1, HKN.out, by go_num, ?_, HEZ.out, HXZ.out, HDZ.out, HQZ.out⟩
          rw [HU2.out]
          exact HLZ.out
        case measure => simp [intOf]; omega
      · obtain rfl : k = gn := by omega
        obtain ⟨-, -, -, -, -, -, a6, -, -, -, -, -⟩ := hlr.cells
        obtain ⟨hec, -⟩ := HE7_row her
        have hkl := HGL.out
        have hkz : (k : Int) < (L.length : Int) := by omega
        have hke : ¬ (ec = k) := by omega
        have hkc : (k : Int) ≤ (ec : Int) := by omega
        have hlb : L.length ≤ 65536 := by rw [HLEN.out]; exact HF.out.ents
        have hdrop : (ecells (L.drop k)).length = (L.length - k) * 4 := by rw [ecells_length]; simp
        have HCE := Lib.hid (clone_ents ⟨eg, k * 4, none⟩ (L.length - k) (ec - k) (ecells (L.drop k)) wr hdrop (fun j u hj => by
          rw [Addr.add_lit]
          exact ents_drop her k (Nat.le_of_lt hkl) j u hj) (ecells_one _ (fun y hy => by
            obtain ⟨ya, yc, e⟩ := (her.own y (List.mem_of_mem_drop hy)).shape
            rw [e]; rfl)) (by omega))
        have f6 := hlr.free 6
        clear hlr her hxr hdr hqr hkn hk
        have hqpl2 : ¬ q = pl := fun e => HLR.out.ne HXR.out (by decide) e.symm
        have hqpl3 : ¬ pl = q := fun e => hqpl2 e.symm
        go_wp2_with (first
          | (go_at_call 74; refine HCE.out.mono ?_; rintro e w8 ⟨o, rfl, ho, hb⟩
             have HO8 := Lib.hid ho
             have HB8 := Lib.hid hb
             have hl8 := HLR.out.qb (Below.qb hb) (Nat.le_refl _)
             have hx8 := (hb.block q (lt_of_block HXR.out)).trans HXR.out
             obtain ⟨oa, oc, rfl⟩ : ∃ oa oc, o = .slice oa (L.length - k) oc := own_shape ho
             obtain ⟨-, -, j2, j3, j4, j5, j6, -, -, -, -, -⟩ := hl8.cells
             simp only at j2 j3 j4 j5 j6
             have p2 := hl8.free 2
             have p3 := hl8.free 3
             have p4 := hl8.free 4
             have p5 := hl8.free 5
             have p6 := hl8.free 6
             have y0 := cell_of_row w8 q 0 _ _ _ hx8
             have y1 := cell_of_row w8 q 1 _ _ _ hx8
             have y2 := cell_of_row w8 q 2 _ _ _ hx8
             have y3 := cell_of_row w8 q 3 _ _ _ hx8
             simp only [List.getElem?_toArray, List.getElem?_cons_zero, List.getElem?_cons_succ] at y0 y1 y2 y3
             have HL8 := Lib.hid hl8
             clear ho hb hl8 hx8))
        obtain ⟨w9, hw9, hbs9, hlg9⟩ : ∃ w9, w9 = (((((w8.setCell ⟨pl, 6, none⟩ (.slice oa (L.length - k) oc)).setCell ⟨pl, 2, none⟩ (.int .u64 (v1 : Nat))).setCell ⟨pl, 3, none⟩ (.int .u64 (n : Nat))).setCell ⟨pl, 4, none⟩ (.int .u64 (x.place : Nat))).setCell ⟨pl, 5, none⟩ (.int .u64 (x.behind : Nat))) ∧
            Beside (fun k => k = pl) w8 w9 ∧ LgV w9 pl (.pointer (some ⟨pd, 0, none⟩)) (.slice oa (L.length - k) oc) (cutS s n x) false := by
          refine ⟨_, rfl, (((((Beside.refl (fun k => k = pl) w8).setCell (p := ⟨pl, 6, none⟩) (.inl rfl) _).setCell (p := ⟨pl, 2, none⟩) (.inl rfl) _).setCell (p := ⟨pl, 3, none⟩) (.inl rfl) _).setCell (p := ⟨pl, 4, none⟩) (.inl rfl) _).setCell (p := ⟨pl, 5, none⟩) (.inl rfl) _, ?_⟩
          have e0 := HL8.out
          have e1 := heap_setCell_same w8 pl 6 _ 91 (.slice oa (L.length - k) oc) e0
          have e2 := heap_setCell_same _ pl 2 _ 91 (.int .u64 (v1 : Nat)) e1
          have e3 := heap_setCell_same _ pl 3 _ 91 (.int .u64 (n : Nat)) e2
          have e4 := heap_setCell_same _ pl 4 _ 91 (.int .u64 (x.place : Nat)) e3
          have e5 := heap_setCell_same _ pl 5 _ 91 (.int .u64 (x.behind : Nat)) e4
          unfold LgV cutS
          rw [e5]
          simp only [HV1.out, HGN.out]
          rfl
        rw [← hw9]
        clear hw9
        go_ret
        have hqB : B ≤ wr.heap.size := Nat.le_trans HDR.out.base HDR.out.below.size
        have he8 : EntR w8 B (.slice oa (L.length - k) oc) (L.drop k) := by
          refine ⟨?_, fun y hy => (Below.qb HB8.out).own (Nat.le_refl _) (HER.out.own y (List.mem_of_mem_drop hy))⟩
          have h1 := rows_mono HO8.out hqB
          rwa [show L.length - k = (L.drop k).length by simp] at h1 ⊢
        have he9 := he8.beside hbs9 (fun i hi cs t fr hh => by
          subst hi
          rw [show w8.heap[i]? = _ from HL8.out] at hh
          simp at hh
          rw [← hh.2.1]
          decide)
        have hd9 := (HDR.out.below' HB8.out).beside2 hbs9 (fun i hi => by subst hi; exact ⟨_, _, _, HL8.out, by decide, by decide, by decide⟩) (fun i hi => by subst hi; exact HH.out.base)
        refine ⟨rfl, ⟨?_, ⟨_, _, hlg9, he9, ?_⟩, HH.out.base⟩, ?_⟩
        · unfold cutD
          rw [HV1.out, HR.out]
          exact hd9
        · unfold cutS
          rw [List.map_drop, HLS.out, HGN.out]
        · refine ((HLQ.out.trans HQR.out).trans ((Below.qb HB8.out).lq (Nat.le_refl _))).trans (LQ.beside hbs9 (fun i hi cs t fr hh => ?_))
          subst hi
          rw [show w8.heap[i]? = _ from HL8.out] at hh
          simp at hh
          exact .inl hh.2.1.symm
end Go.Proofs.Ytmnbkhgogogeiaa
