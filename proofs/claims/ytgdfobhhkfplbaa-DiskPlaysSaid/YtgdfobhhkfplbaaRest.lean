/-
  The rest of the disk's methods: Size, Arm, Write's refusals, Fork.
-/
import Derived.Test.YtgdfobhhkfplbaaApartWalk
import Derived.Shelf.SlMaps.Clone
namespace Go.Proofs.Ytgdfobhhkfplbaa
set_option linter.unusedVariables false
open Go.RowKit

theorem size_ok {w : World} {O : Nat → Prop} {p : Nat} {kv wv mv : Value} {S : List (List Nat)} {W : List (Nat × List Nat)} {arm : Nat} {down : Bool} (h : Dk w O p kv wv mv S W arm down) :
    Calls Try.prog 31 #[.pointer (some ⟨p, 0, none⟩)] w fun e w' => e = .returned (.int .i64 (S.length : Nat)) ∧ w = w' := by
  have c0 := h.row.cell0
  obtain ⟨a, cap, e⟩ : ∃ a cap, kv = .slice a S.length cap := by
    rcases h.kept.2 with ⟨e, h0⟩ | ⟨g, cap, cur, e, _⟩
    · exact ⟨none, 0, by rw [e, h0]⟩
    · exact ⟨_, _, e⟩
  subst e
  clear h
  go_enter Try.func31, Try.ntmps31
  go_wp2_with fail
  go_ret
  exact ⟨rfl, rfl⟩

theorem arm_ok {w : World} {O : Nat → Prop} {p : Nat} {kv wv mv : Value} {S : List (List Nat)} {W : List (Nat × List Nat)} {arm : Nat} {down : Bool} (h : Dk w O p kv wv mv S W arm down) (n : Int) :
    Calls Try.prog 16 #[.pointer (some ⟨p, 0, none⟩), .int .i64 n] w fun e w' => DkEnd w O p kv S W (max n 0).toNat down (.int .i64 0) e w' := by
  have c3 := h.row.cell3
  have f3 := h.row.free 3
  have H := Lib.hid h
  clear h
  go_enter Try.func16, Try.ntmps16
  go_wp2_with fail
  go_ret
  have hb : Beside (· = p) w (w.setCell ⟨p, 3, none⟩ (.int .i64 (max n 0))) := (Beside.refl _ _).set _
  refine ⟨wv, mv, O, rfl, H.out.turned ?_ hb, hb.ofOne H.out.op, fun k hk => .inl hk⟩
  have := H.out.row.set3 (max n 0)
  rwa [show (((max n 0).toNat : Nat) : Int) = max n 0 from by omega]

theorem write_arg {w : World} {p : Nat} {ko : Option Addr} {n kc : Nat} {wv mv : Value} {arm : Int} (h : DkV w p (.slice ko n kc) wv mv arm false) (hn : n ≤ 65536) (a : Int) (va : Option Addr) (vn vc : Nat) (hbad : hasB n a = false ∨ vn ≠ 64) : Calls Try.prog 24 #[.pointer (some ⟨p, 0, none⟩), .int .i64 a, .slice va vn vc] w fun e w' => e = .returned (.int .i64 1) ∧ w = w' := by
  have hh := has_ok h a hn
  cases hb : hasB n a with
  | false =>
    rw [hb] at hh
    have HH := Lib.hid hh
    clear hh hb hbad
    go_enter Try.func24, Try.ntmps24
    go_wp2_with fail
    refine (ready_ok h).mono ?_
    rintro e w1 ⟨rfl, rfl⟩
    go_wp2_with fail
    refine HH.out.mono ?_
    rintro e w1 ⟨rfl, rfl⟩
    go_wp2_with fail
    go_ret
    exact ⟨rfl, rfl⟩
  | true =>
    rw [hb] at hh
    have hne : ¬ (vn : Int) = 64 := by
      rcases hbad with hbad | hbad
      · rw [hb] at hbad; cases hbad
      · omega
    have HH := Lib.hid hh
    clear hh hb hbad
    go_enter Try.func24, Try.ntmps24
    go_wp2_with fail
    refine (ready_ok h).mono ?_
    rintro e w1 ⟨rfl, rfl⟩
    go_wp2_with fail
    refine HH.out.mono ?_
    rintro e w1 ⟨rfl, rfl⟩
    go_wp2_with fail
    go_ret
    exact ⟨rfl, rfl⟩

set_option maxHeartbeats 1000000 in
theorem clone_secs (v : Value) (n : Nat) (xs : List Value) (w : World) (hr : w.ownsRow 0 66 64 v n xs) (h1 : ∀ u ∈ xs, u.oneCell' = true) (hn : n ≤ 1000000) : Calls Try.prog 40 #[v] w fun e w' => ∃ o, e = .returned o ∧ w'.ownsRow w.heap.size 66 64 o n xs ∧ Below w.heap.size w w' := by
  obtain ⟨i0, hi, hz0, hz1, hz2⟩ := info_parts Try.info66
  obtain ⟨hlen, h2⟩ := hr
  rcases h2 with ⟨rfl, rfl⟩ | ⟨g, cap, cur, rfl, -, hh, hc, hm, hsz, ht⟩
  · obtain rfl : xs = [] := List.eq_nil_of_length_eq_zero (by simpa using hlen)
    have he := Lib.run_eql_slice_nil (P := Try.prog)
    go_enter Try.func40, Try.ntmps40
    go_wp2_with fail
    go_ret
    exact ⟨_, rfl, World.ownsRow_nil _ _ _ _, Below.refl _ _⟩
  · have he := fun (w : World) => Lib.run_eql_slice_nil (P := Try.prog) w 59 66 (some ⟨g, 0, none⟩) n cap 0 0 Try.underlying59
    have hown0 := World.ownsRow_lit (base := w.heap.size) (e := 66) (size := 64) w #[] 0 (Nat.le_refl _) (by decide) rfl
    have hg := lt_of_block hh
    have hnews : ∀ j u, xs[j]? = some u → (w.alloc (.cells #[] 66)).cell? ((⟨g, 0, none⟩ : Addr).add j) = some u := by
      intro j u hj
      have hjl : j < n * 64 := by have := (List.getElem?_eq_some_iff.1 hj).1; omega
      rw [Addr.add_mid, Nat.zero_add, World.cell?_of_block (w := w) (Below.heap_alloc w _ g hg), cell_of_row _ _ j _ _ _ hh]
      rw [← ht, List.getElem?_take_of_lt hjl] at hj
      simpa using hj
    have Hnews := Lib.hid hnews
    have Hl := Lib.hid hlen
    have H1 := Lib.hid h1
    clear hnews hlen h1 ht hh
    go_enter Try.func40, Try.ntmps40
    go_wp2_with (at_builtin; go_loud (refine wpList_append_own _ rfl (.tmp 5) (.tmp 6) 59 rfl (w.heap.size) 66 i0 _ 64 64 Try.underlying59 hi hz0 hz1 hz2 rfl (by decide) _ _ _ rfl hown0 ⟨g, 0, none⟩ n cap xs rfl Hl.out Hnews.out H1.out (by simp [maxLen]; omega) (by simp; omega) (by simp) ?_))
    intro o w1 ho hgr _
    go_wp2_with fail
    go_ret
    refine ⟨_, rfl, ?_, ?_⟩
    · simpa using ho
    · exact ((Below.refl _ _).alloc (Nat.le_refl _) _).grown hgr (by simp) (by intro k hk; simp [Value.ownBlock] at hk; omega)

set_option maxHeartbeats 1000000 in
theorem clone_writes (v : Value) (n : Nat) (xs : List Value) (w : World) (hr : w.ownsRow 0 69 65 v n xs) (h1 : ∀ u ∈ xs, u.oneCell' = true) (hn : n ≤ 1000000) : Calls Try.prog 41 #[v] w fun e w' => ∃ o, e = .returned o ∧ w'.ownsRow w.heap.size 69 65 o n xs ∧ Below w.heap.size w w' := by
  obtain ⟨i0, hi, hz0, hz1, hz2⟩ := info_parts Try.info69
  obtain ⟨hlen, h2⟩ := hr
  rcases h2 with ⟨rfl, rfl⟩ | ⟨g, cap, cur, rfl, -, hh, hc, hm, hsz, ht⟩
  · obtain rfl : xs = [] := List.eq_nil_of_length_eq_zero (by simpa using hlen)
    have he := Lib.run_eql_slice_nil (P := Try.prog)
    go_enter Try.func41, Try.ntmps41
    go_wp2_with fail
    go_ret
    exact ⟨_, rfl, World.ownsRow_nil _ _ _ _, Below.refl _ _⟩
  · have he := fun (w : World) => Lib.run_eql_slice_nil (P := Try.prog) w 60 69 (some ⟨g, 0, none⟩) n cap 0 0 Try.underlying60
    have hown0 := World.ownsRow_lit (base := w.heap.size) (e := 69) (size := 65) w #[] 0 (Nat.le_refl _) (by decide) rfl
    have hg := lt_of_block hh
    have hnews : ∀ j u, xs[j]? = some u → (w.alloc (.cells #[] 69)).cell? ((⟨g, 0, none⟩ : Addr).add j) = some u := by
      intro j u hj
      have hjl : j < n * 65 := by have := (List.getElem?_eq_some_iff.1 hj).1; omega
      rw [Addr.add_mid, Nat.zero_add, World.cell?_of_block (w := w) (Below.heap_alloc w _ g hg), cell_of_row _ _ j _ _ _ hh]
      rw [← ht, List.getElem?_take_of_lt hjl] at hj
      simpa using hj
    have Hnews := Lib.hid hnews
    have Hl := Lib.hid hlen
    have H1 := Lib.hid h1
    clear hnews hlen h1 ht hh
    go_enter Try.func41, Try.ntmps41
    go_wp2_with (at_builtin; go_loud (refine wpList_append_own _ rfl (.tmp 5) (.tmp 6) 60 rfl (w.heap.size) 69 i0 _ 65 72 Try.underlying60 hi hz0 hz1 hz2 rfl (by decide) _ _ _ rfl hown0 ⟨g, 0, none⟩ n cap xs rfl Hl.out Hnews.out H1.out (by simp [maxLen]; omega) (by simp; omega) (by simp) ?_))
    intro o w1 ho hgr _
    go_wp2_with fail
    go_ret
    refine ⟨_, rfl, ?_, ?_⟩
    · simpa using ho
    · exact ((Below.refl _ _).alloc (Nat.le_refl _) _).grown hgr (by simp) (by intro k hk; simp [Value.ownBlock] at hk; omega)

set_option maxHeartbeats 1000000 in
theorem clone_map (m : Nat) (es : Array MapEntry) (c : Nat) (w : World) (hb : w.heap[m]? = some (.map es c)) : Calls Try.prog 42 #[.map (some m)] w fun e w' => e = .returned (.map (some w.heap.size)) ∧ w' = w.alloc (.map es c) := by
  have hq := eq_map_some
  go_enter Try.func42, Try.ntmps42
  go_wp2
  rw [run_callFunc_extern Try.func46 (by kernel_rfl) (by kernel_rfl) (by kernel_rfl) (e := Extern.MapsClone.clone) (by kernel_rfl), run_maps_clone_sl w 61 hb]
  simp only [Result.andThen]
  rw [Oper.upon_value]
  go_wp2
  rw [run_typeAssert_map_sl _ 61 20 _ _ _ Try.underlying61]
  simp only [Result.andThen]
  rw [Oper.upon_value]
  go_wp2
  go_ret
  exact ⟨rfl, rfl⟩
theorem clone_map_nil (w : World) : Calls Try.prog 42 #[.map none] w fun e w' => e = .returned (.map none) ∧ w' = w := by
  have hq := eq_map_none
  go_enter Try.func42, Try.ntmps42
  go_wp2_with fail
  go_ret
  exact ⟨rfl, rfl⟩

theorem DkV.set0 {w : World} {p : Nat} {kv wv mv : Value} {arm : Int} {down : Bool} (h : DkV w p kv wv mv arm down) (v : Value) : DkV (w.setCell ⟨p, 0, none⟩ v) p v wv mv arm down := by unfold DkV at h ⊢; rw [heap_setCell_same w p 0 _ 63 _ h]; rfl
theorem DkV.below {w w' : World} {p : Nat} {kv wv mv : Value} {arm : Int} {down : Bool} (h : DkV w p kv wv mv arm down) (hb : Below w.heap.size w w') : DkV w' p kv wv mv arm down := by
  have := lt_of_block h
  unfold DkV at h ⊢
  rw [hb.block p this, h]
theorem ownsRow_below {w w' : World} {B : Nat} {e : TypeId} {sz : Nat} {v : Value} {n : Nat} {xs : List Value} (h : w.ownsRow B e sz v n xs) (hb : Below w.heap.size w w') : w'.ownsRow B e sz v n xs :=
  ownsRow_beside (own := fun _ => False) h ⟨hb.os, hb.tape, hb.output, hb.size, fun k hk _ => hb.block k hk⟩ (fun _ _ h => h)
theorem ownsRow_set {w : World} {B : Nat} {e : TypeId} {sz : Nat} {v : Value} {n : Nat} {xs : List Value} (h : w.ownsRow B e sz v n xs) {q j : Nat} {u : Value} (hn : ∀ k, v.ownBlock = some k → k ≠ q) : (w.setCell ⟨q, j, none⟩ u).ownsRow B e sz v n xs :=
  ownsRow_beside (own := (· = q)) h (Beside.one w q j u) hn
theorem own_shape {w : World} {B : Nat} {e : TypeId} {sz : Nat} {v : Value} {n : Nat} {xs : List Value} (h : w.ownsRow B e sz v n xs) : ∃ a c, v = .slice a n c := by
  rcases h.2 with ⟨rfl, rfl⟩ | ⟨g, cap, cur, rfl, _⟩
  · exact ⟨_, _, rfl⟩
  · exact ⟨_, _, rfl⟩
theorem own_ge {w : World} {B : Nat} {e : TypeId} {sz : Nat} {v : Value} {n : Nat} {xs : List Value} (h : w.ownsRow B e sz v n xs) : ∀ k, v.ownBlock = some k → B ≤ k := by
  intro k hk
  rcases h.2 with ⟨rfl, _⟩ | ⟨g', cap', cur, rfl, hb, hh, _⟩
  · cases hk
  · simp [Value.ownBlock] at hk
    subst hk
    exact hb
theorem secs_one (S : List (List Nat)) : ∀ v ∈ secs S, v.oneCell' = true := by
  intro v hv
  obtain ⟨s, _, hs⟩ := List.mem_flatMap.1 hv
  exact u8s_one s v hs
theorem wcells_one (W : List (Nat × List Nat)) : ∀ v ∈ wcells W, v.oneCell' = true := by
  intro v hv
  obtain ⟨x, _, hs⟩ := List.mem_flatMap.1 hv
  exact wrow_one x.1 x.2 v hs

set_option maxRecDepth 100000 in
set_option maxHeartbeats 1000000 in
theorem fork_ok {w : World} {p : Nat} {kv wv mv : Value} {S : List (List Nat)} {W : List (Nat × List Nat)} {arm : Nat} {down : Bool} (h : Dk w (Mine p kv wv mv) p kv wv mv S W arm down) :
    Calls Try.prog 23 #[.pointer (some ⟨p, 0, none⟩)] w fun e w' => ∃ kv' wv' mv', e = .returned (.pointer (some ⟨w.heap.size, 0, none⟩)) ∧ Dk w' (Mine w.heap.size kv' wv' mv') w.heap.size kv' wv' mv' S W arm down ∧ Below w.heap.size w w' ∧ ∀ k, Mine w.heap.size kv' wv' mv' k → w.heap.size ≤ k := by
  have c0 := h.row.cell0
  have c1 := h.row.cell1
  have c2 := h.row.cell2
  have c3 := h.row.cell3
  have c4 := h.row.cell4
  have hps : p < w.heap.size := lt_of_block h.row
  obtain ⟨ka, kc, ek⟩ := own_shape h.kept
  obtain ⟨wa, wc, ew⟩ := own_shape h.waits
  obtain ⟨mo, em⟩ : ∃ mo, mv = .map mo := by rcases h.last with ⟨e, _⟩ | ⟨m, _, _, e, _⟩; exact ⟨_, e⟩; exact ⟨_, e⟩
  subst ek ew em
  have H := Lib.hid h
  clear h
  go_enter Try.func23, Try.ntmps23
  have hpn : p ≠ w.heap.size := by omega
  have hsl := H.out.good.sl
  have hwl := H.out.good.wl
  have hbA : Below w.heap.size w (w.alloc (.cells #[.slice ka S.length kc, .slice wa W.length wc, .map mo, .int .i64 arm, .bool down] 63)) := (Below.refl _ _).alloc (Nat.le_refl _) _
  have hvA : DkV (w.alloc (.cells #[.slice ka S.length kc, .slice wa W.length wc, .map mo, .int .i64 arm, .bool down] 63)) w.heap.size (.slice ka S.length kc) (.slice wa W.length wc) (.map mo) arm down := heap_alloc_new w _
  have hpA := H.out.row.below hbA
  have hkA := ownsRow_below H.out.kept hbA
  go_wp2_with fail
  refine (clone_secs _ _ _ _ hkA (secs_one S) (by omega)).mono ?_
  rintro e w1 ⟨o1, rfl, ho1, hb1⟩
  obtain ⟨a1, k1, rfl⟩ := own_shape ho1
  have hv1 := hvA.below hb1
  have hp1 := hpA.below hb1
  have hB1 := hbA.trans (hb1.mono hbA.size)
  have d0 := hv1.cell0
  have g0 := hv1.free 0
  have p1 := hp1.cell1
  have HV1 := Lib.hid hv1
  have HP1 := Lib.hid hp1
  have HO1 := Lib.hid ho1
  have HB1 := Lib.hid hB1
  have hz1 : w.heap.size < w1.heap.size := lt_of_block hv1
  clear hvA hpA hkA hbA hv1 hp1 ho1 hb1 hB1
  go_wp2_with fail
  have hv2 := HV1.out.set0 (.slice a1 S.length k1)
  have hp2 : DkV (w1.setCell ⟨w.heap.size, 0, none⟩ (.slice a1 S.length k1)) p (.slice ka S.length kc) (.slice wa W.length wc) (.map mo) arm down := HP1.out.beside (own := (· = w.heap.size)) (Beside.one _ _ _ _) hpn
  have ho2 : (w1.setCell ⟨w.heap.size, 0, none⟩ (.slice a1 S.length k1)).ownsRow w.heap.size 66 64 (.slice a1 S.length k1) S.length (secs S) := World.ownsRow.mono (ownsRow_set HO1.out (fun k hk e => by have := own_ge HO1.out k hk; simp at this; omega)) (by simp)
  have hB2 : Below w.heap.size w (w1.setCell ⟨w.heap.size, 0, none⟩ (.slice a1 S.length k1)) := HB1.out.setCell (p := ⟨w.heap.size, 0, none⟩) (Nat.le_refl _) _
  have hw2 := ownsRow_below H.out.waits hB2
  refine (clone_writes _ _ _ _ hw2 (wcells_one W) hwl).mono ?_
  rintro e w3 ⟨o3, rfl, ho3, hb3⟩
  obtain ⟨a3, k3, rfl⟩ := own_shape ho3
  have hv3 := hv2.below hb3
  have hp3 := hp2.below hb3
  have hk3 := ownsRow_below ho2 hb3
  have hB3 := hB2.trans (hb3.mono hB2.size)
  have q1 := hv3.cell1
  have f1 := hv3.free 1
  have p2 := hp3.cell2
  have HV3 := Lib.hid hv3
  have HP3 := Lib.hid hp3
  have HO3 := Lib.hid ho3
  have HK3 := Lib.hid hk3
  have HB3 := Lib.hid hB3
  have hz3 : w.heap.size < w3.heap.size := lt_of_block hv3
  clear hv2 hp2 ho2 hB2 hw2 hv3 hp3 ho3 hb3 hk3 hB3 d0 g0 p1 HV1 HP1 HO1 HB1
  have hv4 := HV3.out.set1 (.slice a3 W.length k3)
  have hk4 : (w3.setCell ⟨w.heap.size, 1, none⟩ (.slice a3 W.length k3)).ownsRow w.heap.size 66 64 (.slice a1 S.length k1) S.length (secs S) := ownsRow_set HK3.out (fun k hk => ownsRow_ne HK3.out HV3.out (by decide) k hk)
  have ho4 : (w3.setCell ⟨w.heap.size, 1, none⟩ (.slice a3 W.length k3)).ownsRow w.heap.size 69 65 (.slice a3 W.length k3) W.length (wcells W) := World.ownsRow.mono (ownsRow_set HO3.out (fun k hk => ownsRow_ne HO3.out HV3.out (by decide) k hk)) (by simp; omega)
  have hB4 : Below w.heap.size w (w3.setCell ⟨w.heap.size, 1, none⟩ (.slice a3 W.length k3)) := HB3.out.setCell (p := ⟨w.heap.size, 1, none⟩) (Nat.le_refl _) _
  have HV4 := Lib.hid hv4
  have HK4 := Lib.hid hk4
  have HO4 := Lib.hid ho4
  have HB4 := Lib.hid hB4
  have r2 := HV3.out.cell2
  have r3 := HV3.out.free 2
  clear hv4 hk4 ho4 hB4 HV3 HP3 HO3 HK3 HB3
  have fin : ∀ (w5 : World) (mv' : Value), Below (w3.setCell ⟨w.heap.size, 1, none⟩ (.slice a3 W.length k3)).heap.size (w3.setCell ⟨w.heap.size, 1, none⟩ (.slice a3 W.length k3)) w5 → (∀ k, mv' = .map (some k) → w.heap.size < k) → LastM w5 mv' W →
      ∃ kv' wv' mv'', Dk (w5.setCell ⟨w.heap.size, 2, none⟩ mv') (Mine w.heap.size kv' wv' mv'') w.heap.size kv' wv' mv'' S W arm down ∧ Below w.heap.size w (w5.setCell ⟨w.heap.size, 2, none⟩ mv') ∧ ∀ k, Mine w.heap.size kv' wv' mv'' k → w.heap.size ≤ k := by
    intro w5 mv' hb5 hm5 hl5
    have hv5 := HV4.out.below hb5
    have hk5 := ownsRow_below HK4.out hb5
    have ho5 := ownsRow_below HO4.out hb5
    refine ⟨.slice a1 S.length k1, .slice a3 W.length k3, mv', ⟨hv5.set2 mv', (ownsRow_set hk5 (fun k hk => ownsRow_ne hk5 hv5 (by decide) k hk)).mono (Nat.zero_le _), (ownsRow_set ho5 (fun k hk => ownsRow_ne ho5 hv5 (by decide) k hk)).mono (Nat.zero_le _), hl5.beside (Beside.one w5 w.heap.size 2 mv') (fun k hk e => by have := hm5 k hk; omega), H.out.good, .inl rfl, fun k hk => .inr (.inl hk), fun k hk => .inr (.inr (.inl hk)), fun k hk => .inr (.inr (.inr hk))⟩, (HB4.out.trans (hb5.mono HB4.out.size)).setCell (p := ⟨w.heap.size, 2, none⟩) (Nat.le_refl _) _, ?_⟩
    rintro k (rfl | hk | hk | hk)
    · exact Nat.le_refl _
    · exact own_ge hk5 k hk
    · exact own_ge ho5 k hk
    · exact Nat.le_of_lt (hm5 k hk)
  have HF := Lib.hid fin
  clear fin
  rcases H.out.last with ⟨em, hW⟩ | ⟨m, L, c, em, hm, hg⟩
  · obtain rfl : mo = none := by simpa using em
    have hfin := HF.out _ (.map none) (Below.refl _ _) (by simp) (.inl ⟨rfl, hW⟩)
    have HFIN := Lib.hid hfin
    clear hfin hW em
    go_wp2_with fail
    refine (clone_map_nil _).mono ?_
    rintro e w5 ⟨rfl, rfl⟩
    go_wp2_with fail
    go_ret
    obtain ⟨kv', wv', mv'', h1, h2, h3⟩ := HFIN.out
    exact ⟨kv', wv', mv'', rfl, h1, h2, h3⟩
  · obtain rfl : mo = some m := by simpa using em
    have hm4 : (w3.setCell ⟨w.heap.size, 1, none⟩ (.slice a3 W.length k3)).heap[m]? = some (.map (L.map ent).toArray c) := by
      rw [HB4.out.block m hm.lt]
      exact hm
    have hsz : w.heap.size < (w3.setCell ⟨w.heap.size, 1, none⟩ (.slice a3 W.length k3)).heap.size := lt_of_block HV4.out
    have hb5 : Below (w3.setCell ⟨w.heap.size, 1, none⟩ (.slice a3 W.length k3)).heap.size (w3.setCell ⟨w.heap.size, 1, none⟩ (.slice a3 W.length k3)) ((w3.setCell ⟨w.heap.size, 1, none⟩ (.slice a3 W.length k3)).alloc (.map (L.map ent).toArray c)) := (Below.refl _ _).alloc (Nat.le_refl _) _
    have hfin := HF.out _ (.map (some (w3.setCell ⟨w.heap.size, 1, none⟩ (.slice a3 W.length k3)).heap.size)) hb5 (by intro k hk; simp at hk; subst hk; simpa using hsz) (.inr ⟨_, L, c, rfl, heap_alloc_new _ _, hg⟩)
    have s2 := (HV4.out.below hb5).cell2
    have s3 := (HV4.out.below hb5).free 2
    have HFIN := Lib.hid hfin
    have HM4 := Lib.hid hm4
    clear hfin em hm4 hb5 hm hg r2 r3
    go_wp2_with fail
    refine (clone_map m _ c _ HM4.out).mono ?_
    rintro e w5 ⟨rfl, hw5⟩
    rw [← hw5] at HFIN s2 s3
    clear hw5
    go_wp2_with fail
    go_ret
    obtain ⟨kv', wv', mv'', h1, h2, h3⟩ := HFIN.out
    rw [show (w3.setCell ⟨w.heap.size, 1, none⟩ (.slice a3 W.length k3)).heap.size = w3.heap.size from by simp [World.setCell]] at h1 h2
    exact ⟨kv', wv', mv'', rfl, h1, h2, h3⟩
end Go.Proofs.Ytgdfobhhkfplbaa
