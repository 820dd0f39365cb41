/-
  The reference's Show and Read.
-/
import Derived.Test.YtgdfobhhkfplbaaRDisk
namespace Go.Proofs.Ytgdfobhhkfplbaa
set_option linter.unusedVariables false
open Go.RowKit

theorem wait_any {w : World} {E : TypeId} {wv : Value} {W : List (Nat × List Nat)} (hrow : w.ownsRow 0 E 65 wv W.length (wcells W)) (h64 : ∀ x ∈ W, x.2.length = 64) {i : Nat} (hi : i < W.length) :
    ∃ wg wc, wv = .slice (some ⟨wg, 0, none⟩) W.length wc ∧ W.length ≤ wc ∧ wg < w.heap.size ∧ w.rangeAt wg (i * 65) (wcell W[i]) ∧ wc ≤ maxLen := by
  rcases hrow.2 with ⟨_, h0⟩ | ⟨kg, kc, cur, rfl, _, hh, hc, hm, hsz, ht⟩
  · omega
  · refine ⟨kg, kc, rfl, hc, lt_of_block hh, fun j v hj => ?_, hm⟩
    have hj64 : j < 65 := by have := (List.getElem?_eq_some_iff.1 hj).1; simpa [wcell, h64 _ (List.getElem_mem hi)] using this
    have h1 := wcells_at h64 hi hj64
    rw [cell_of_row _ _ _ _ _ _ hh]
    have h2 : (wcells W)[i * 65 + j]? = cur[i * 65 + j]? := by
      rw [← ht, List.getElem?_take_of_lt (by omega)]
      simp
    rw [← h2, h1, hj]
theorem sec_any {w : World} {E : TypeId} {sv : Value} {S : List (List Nat)} (hrow : w.ownsRow 0 E 64 sv S.length (secs S)) (h64 : ∀ s ∈ S, s.length = 64) {i : Nat} (hi : i < S.length) :
    ∃ g c, sv = .slice (some ⟨g, 0, none⟩) S.length c ∧ S.length ≤ c ∧ g < w.heap.size ∧ w.rangeAt g (i * 64) (u8s S[i]) ∧ c ≤ maxLen := by
  rcases hrow.2 with ⟨_, h0⟩ | ⟨kg, kc, cur, rfl, _, hh, hc, hm, hsz, ht⟩
  · omega
  · refine ⟨kg, kc, rfl, hc, lt_of_block hh, fun j v hj => ?_, hm⟩
    have hj64 : j < 64 := by have := (List.getElem?_eq_some_iff.1 hj).1; simpa [h64 _ (List.getElem_mem hi)] using this
    have h1 := secs_at h64 hi hj64
    rw [cell_of_row _ _ _ _ _ _ hh]
    have h2 : (secs S)[i * 64 + j]? = cur[i * 64 + j]? := by
      rw [← ht, List.getElem?_take_of_lt (by omega)]
      simp
    rw [← h2, h1, hj]

theorem load65s : (Try.prog.info? 65).map (·.size) = some 64 := by kernel_rfl
theorem load65 {w : World} {ops : Array Oper} {rest : List Oper} {op : Oper} {a : Act} {Q : Exit → Act → World → Prop} (hgd : op.guard = none) (x : Operand) (ho : op.op = .load 65 x)
    (b o : Nat) (hx : a.eval x = .pointer (some ⟨b, o, none⟩)) (l : List Nat) (hl : l.length = 64) (hc : w.rangeAt b o (u8s l))
    (h : wpList Try.prog ops Q rest (a.put op.dst (.agg (u8s l).toArray)) w) : wpList Try.prog ops Q (op :: rest) a w :=
  wpList_load_mid hgd 65 x ho b o hx (u8s l) _ hc Try.underlying65 rfl (by rw [load65s]; simp [hl]) h
theorem store65 {w : World} {ops : Array Oper} {rest : List Oper} {op : Oper} {a : Act} {Q : Exit → Act → World → Prop} (hgd : op.guard = none) (x y : Operand) (ho : op.op = .store 65 x y) {Z : Array Value}
    (hx : a.eval x = .pointer (some ⟨w.heap.size, 0, none⟩)) (l : List Nat) (hl : l.length = 64) (hy : a.eval y = .agg (u8s l).toArray) (hZ : Z.size = 64)
    (h : wpList Try.prog ops Q rest (a.put op.dst undef) (w.alloc (.cells (u8s l).toArray 65))) : wpList Try.prog ops Q (op :: rest) a (w.alloc (.cells Z 65)) := by
  refine wpList_store_row hgd 65 x y ho w.heap.size _ hx hy 65 Z (heap_alloc_new w _) (by rw [load65s]; simp [hl]) (by simp [hl, hZ]) (all_oneCell_toArray (u8s_one l)) ?_
  rw [World.setRow_alloc_new]
  exact h
theorem zero65 (w : World) : (zeroValue 65).run Try.prog w = .ok (.agg (u8s (zeros 64)).toArray) w := by kernel_rfl
theorem alloc65 {w : World} {ops : Array Oper} {rest : List Oper} {op : Oper} {a : Act} {Q : Exit → Act → World → Prop} (hgd : op.guard = none) (ho : op.op = .alloc 65)
    (h : wpList Try.prog ops Q rest (a.put op.dst (.pointer (some ⟨w.heap.size, 0, none⟩))) (w.alloc (.cells (u8s (zeros 64)).toArray 65))) : wpList Try.prog ops Q (op :: rest) a w := by
  refine wpList_plain hgd fun K hK => ?_
  have hz := zero65 w
  unfold Oper.wp
  simp [execOp, ho, hz, Sem.run_bind, Result.andThen, go_sem]
  exact hK _ _ h

theorem shown_take (S : List (List Nat)) (W : List (Nat × List Nat)) (a k : Nat) (hk : k < W.length) : shown S (W.take (k + 1)) a = if (W[k]).1 = a then (W[k]).2 else shown S (W.take k) a := by
  rw [List.take_succ_eq_append_getElem hk, shown_snoc]

set_option maxRecDepth 100000 in
set_option maxHeartbeats 1000000 in
theorem rshow {w : World} {q : Nat} {sv uv : Value} {S : List (List Nat)} {W : List (Nat × List Nat)} {arm : Nat} {off : Bool} (h : RDk w q sv uv S W arm off) (hG : Good S W) (a : Nat) (ha : a < S.length) :
    Calls Try.prog 35 #[.pointer (some ⟨q, 0, none⟩), .int .i64 (a : Int)] w fun e w' => e = .returned (.agg (u8s (shown S W a)).toArray) ∧ Below w.heap.size w w' := by
  have hwl := hG.wl
  have hqs := lt_of_block h.row
  obtain ⟨ua, uc, rfl⟩ := own_shape h.waits
  have hW0 : Hid (∀ o, RV (w.alloc o) q sv (.slice ua W.length uc) arm off) := Lib.hid fun o => h.row.beside (own := fun _ => False) ((Beside.refl _ _).alloc _) (fun h => h)
  have c0 := (hW0.out (.cells (u8s (zeros 64)).toArray 65)).cell0
  have c1 := (hW0.out (.cells (u8s (zeros 64)).toArray 65)).cell1
  have H := Lib.hid h
  clear h hW0
  go_enter Try.func35, Try.ntmps35
  go_wp2_with (refine alloc65 rfl rfl ?_)
  go_loopw [5] (fun i wr => ∃ j : Int, -1 ≤ j ∧ j < W.length ∧ i = .int .i64 j ∧ shown S W a = shown S (W.take (j + 1).toNat) a ∧ wr = w.alloc (.cells (u8s (zeros 64)).toArray 65)) (fun i _ => (intOf i + 1).toNat)
  case atStart => exact ⟨(W.length : Int) - 1, by omega, by omega, rfl, by rw [show ((W.length : Int) - 1 + 1).toNat = W.length from by omega, List.take_of_length_le (Nat.le_refl _)], rfl⟩
  case round =>
    obtain ⟨j, hj1, hj2, rfl, hsh, rfl⟩ := hrel
    by_cases hj : 0 ≤ j
    · obtain ⟨k, rfl⟩ := Int.eq_ofNat_of_zero_le hj
      have hk : k < W.length := by omega
      have h64 := hG.w64 _ (List.getElem_mem hk)
      obtain ⟨wg, wc', ewv, hwc, hwg, hrng, hwm⟩ := wait_any H.out.waits hG.w64 hk
      obtain ⟨rfl, rfl⟩ : ua = some ⟨wg, 0, none⟩ ∧ uc = wc' := by simpa using ewv
      have hrA := World.rangeAt_alloc hrng (.cells (u8s (zeros 64)).toArray 65)
      have ct : (w.alloc (.cells (u8s (zeros 64)).toArray 65)).cell? ⟨wg, k * 65, none⟩ = some (.int .i64 ((W[k]).1 : Nat)) := hrA 0 _ (by simp [wcell])
      have HRNG := Lib.hid (rangeAt_tail hrA)
      have hkc : k < uc := by omega
      have HSH := Lib.hid hsh
      clear hrng hrA ewv hsh
      by_cases he : (W[k]).1 = a
      · have hq : (((W[k]).1 : Nat) : Int) = (a : Int) := by omega
        rw [hq] at ct
        clear hq
        go_wp2_with (first | (refine load65 rfl (.tmp 32) rfl wg (k * 65 + 1) rfl (W[k]).2 h64 HRNG.out ?_) | (refine store65 rfl (.tmp 4) (.tmp 33) rfl rfl (W[k]).2 h64 rfl (by simp [zeros]) ?_))
        have hlv := run_loadVar65 h64 (heap_alloc_new w (.cells (u8s (W[k]).2).toArray 65))
        have hfin : shown S W a = (W[k]).2 := by
          rw [HSH.out, show ((k : Int) + 1).toNat = k + 1 from by omega, shown_take S W a k hk, if_pos he]
        refine bodyPost_ret (v := .agg (u8s (W[k]).2).toArray) (by simp [results, Try.results35, asAddr, hlv, Act.put]) rfl ⟨by rw [hfin], (Below.refl _ _).alloc (Nat.le_refl _) _⟩
      · have hq : ((((W[k]).1 : Nat) : Int) == (a : Int)) = false := beq_eq_false_iff_ne.2 (by omega)
        go_wp2_with fail
        go_roundw
        case rel =>
          refine ⟨(k : Int) - 1, by omega, by omega, by go_num, ?_, trivial⟩
          rw [HSH.out, show ((k : Int) + 1).toNat = k + 1 from by omega, shown_take S W a k hk, if_neg he, show ((k : Int) - 1 + 1).toNat = k from by omega]
        case measure => simp [intOf] <;> omega
    · obtain rfl : j = -1 := by omega
      have hd64 := hG.s64 _ (List.getElem_mem ha)
      obtain ⟨sg, sc, rfl, hsc, hsg, hrng, hsm⟩ := sec_any H.out.kept hG.s64 ha
      have HRNG := Lib.hid (World.rangeAt_alloc hrng (.cells (u8s (zeros 64)).toArray 65))
      have hai : (a : Int) < (S.length : Int) := by omega
      have hac : a < sc := by omega
      have hfin : Hid (shown S W a = S[a]) := Lib.hid (by
        rw [hsh, show ((-1 : Int) + 1).toNat = 0 from rfl, List.take_zero, shown_nil, List.getD_eq_getElem?_getD, List.getElem?_eq_getElem ha]
        rfl)
      clear hrng hsh
      go_wp2_with (first | (refine load65 rfl (.tmp 39) rfl sg (a * 64) rfl S[a] hd64 HRNG.out ?_) | (refine store65 rfl (.tmp 4) (.tmp 40) rfl rfl S[a] hd64 rfl (by simp [zeros]) ?_))
      have hlv := run_loadVar65 hd64 (heap_alloc_new w (.cells (u8s S[a]).toArray 65))
      refine bodyPost_ret (v := .agg (u8s S[a]).toArray) (by simp [results, Try.results35, asAddr, hlv]) rfl ⟨by rw [hfin.out], (Below.refl _ _).alloc (Nat.le_refl _) _⟩

theorem rread_off {w : World} {q : Nat} {sv uv : Value} {arm : Int} (h : RV w q sv uv arm true) (a : Int) : Calls Try.prog 11 #[.pointer (some ⟨q, 0, none⟩), .int .i64 a] w fun e w' => e = .returned (.tuple #[.slice none 0 0, .int .i64 3]) ∧ w = w' := by
  have c3 := h.cell3
  clear h
  go_enter Try.func11, Try.ntmps11
  go_wp2_with fail
  exact bodyPost_ret (v := .tuple #[.slice none 0 0, .int .i64 3]) (by simp [results, Try.results11, go_sem]) rfl ⟨rfl, rfl⟩
theorem rread_arg {w : World} {q : Nat} {sa : Option Addr} {n sc : Nat} {uv : Value} {arm : Int} (h : RV w q (.slice sa n sc) uv arm false) (a : Int) (ha : hasB n a = false) : Calls Try.prog 11 #[.pointer (some ⟨q, 0, none⟩), .int .i64 a] w fun e w' => e = .returned (.tuple #[.slice none 0 0, .int .i64 1]) ∧ w = w' := by
  have c3 := h.cell3
  have c0 := h.cell0
  clear h
  by_cases hn : a < 0
  · clear ha
    go_enter Try.func11, Try.ntmps11
    go_wp2_with fail
    exact bodyPost_ret (v := .tuple #[.slice none 0 0, .int .i64 1]) (by simp [results, Try.results11, go_sem]) rfl ⟨rfl, rfl⟩
  · have hge : ¬ a < (n : Int) := by
      intro hlt
      simp [hasB] at ha
      omega
    clear ha
    go_enter Try.func11, Try.ntmps11
    go_wp2_with fail
    exact bodyPost_ret (v := .tuple #[.slice none 0 0, .int .i64 1]) (by simp [results, Try.results11, go_sem]) rfl ⟨rfl, rfl⟩

set_option maxHeartbeats 1000000 in
theorem rread_ok {w : World} {q : Nat} {sv uv : Value} {S : List (List Nat)} {W : List (Nat × List Nat)} {arm : Nat} (h : RDk w q sv uv S W arm false) (hG : Good S W) (a : Nat) (ha : a < S.length) (h64 : (shown S W a).length = 64) :
    Calls Try.prog 11 #[.pointer (some ⟨q, 0, none⟩), .int .i64 (a : Int)] w fun e w' => ∃ o, e = .returned (.tuple #[o, .int .i64 0]) ∧ OwnB w' w.heap.size o (shown S W a) ∧ Below w.heap.size w w' := by
  obtain ⟨i0, hi, hz0, hz1, hz2⟩ := info_parts Try.info5
  obtain ⟨sa, sc, rfl⟩ := own_shape h.kept
  have c3 := h.row.cell3
  have c0 := h.row.cell0
  have hn : ¬ (a : Int) < 0 := by omega
  have hai : (a : Int) < (S.length : Int) := by omega
  have H := Lib.hid h
  clear h
  go_enter Try.func11, Try.ntmps11
  go_wp2_with fail
  refine (rshow H.out hG a ha).mono ?_
  rintro e w1 ⟨rfl, hb1⟩
  have hs1 := hb1.size
  have hown0 := World.ownsRow_nil (w1.alloc (.cells (u8s (shown S W a)).toArray 65)) w.heap.size 5 1
  have hnews : ∀ j u, (u8s (shown S W a))[j]? = some u → (w1.alloc (.cells (u8s (shown S W a)).toArray 65)).cell? ((⟨w1.heap.size, 0, none⟩ : Addr).add j) = some u := by
    intro j u hj
    rw [Addr.add_mid, Nat.zero_add, cell_of_row _ _ j _ 65 (0, 0) (heap_alloc_new w1 _)]
    simpa using hj
  have Hnews := Lib.hid hnews
  have HB1 := Lib.hid (hb1.alloc hs1 (.cells (u8s (shown S W a)).toArray 65))
  clear hnews hb1
  generalize hd : shown S W a = d at *
  have HD := Lib.hid hd
  clear hd
  go_wp2_with (first | (refine alloc65 rfl rfl ?_) | (refine store65 rfl (.tmp 6) (.tmp 24) rfl rfl d h64 rfl (by simp [zeros]) ?_) | (at_builtin; go_loud (refine wpList_append_own _ rfl _ (.tmp 25) 30 rfl (w.heap.size) 5 i0 (.int .u8 0) 1 1 Try.underlying30 hi hz0 hz1 hz2 rfl (by decide) _ _ _ rfl hown0 ⟨w1.heap.size, 0, none⟩ 64 64 (u8s d) rfl (by simp [h64]) Hnews.out (u8s_one d) (by simp [maxLen]) (by simp) (by simp; omega) ?_)))
  intro o w2 ho hgr _
  have hB2 := HB1.out.grown hgr (by simp; omega) (by intro k hk; simp [Value.ownBlock] at hk)
  have ho2 : OwnB w2 w.heap.size o d := by
    unfold OwnB
    rw [h64]
    simpa using ho
  have HO2 := Lib.hid ho2
  have HB2 := Lib.hid hB2
  clear ho hgr ho2 hB2
  obtain ⟨oa, oc, rfl⟩ := HO2.out.shape
  go_wp2_with fail
  exact bodyPost_ret (v := .tuple #[.slice oa d.length oc, .int .i64 0]) (by simp [results, Try.results11, go_sem]) rfl ⟨_, rfl, by rw [HD.out]; exact HO2.out, HB2.out⟩
end Go.Proofs.Ytgdfobhhkfplbaa
