/-
  The reference's Crash.
-/
import Derived.Test.YtgdfobhhkfplbaaRFlush
namespace Go.Proofs.Ytgdfobhhkfplbaa
set_option linter.unusedVariables false
open Go.RowKit

theorem putN_zero {S : List (List Nat)} {x : Nat} (d : List Nat) (hx : x < S.length) : putN S x 0 d = S := by
  unfold putN
  rw [List.take_zero, List.drop_zero, List.nil_append, List.getD_eq_getElem?_getD, List.getElem?_eq_getElem hx]
  exact List.set_getElem_self hx

theorem secs_set {S : List (List Nat)} (h64 : ∀ s ∈ S, s.length = 64) {x m : Nat} (hx : x < S.length) (hm : m < 64) (n : Nat) : (secs S).set (x * 64 + m) (.int .u8 (n : Nat)) = secs (S.set x (S[x].set m n)) := by
  have hS : S = S.take x ++ S[x] :: S.drop (x + 1) := by rw [List.getElem_cons_drop, List.take_append_drop]
  have hx64 := h64 _ (List.getElem_mem hx)
  have hA : (secs (S.take x)).length = x * 64 := by
    rw [secs_length _ (fun s hs => h64 s (List.mem_of_mem_take hs))]
    simp
    omega
  have hsec : secs S = secs (S.take x) ++ (u8s S[x] ++ secs (S.drop (x + 1))) := by
    conv => lhs; rw [hS]
    rw [secs_append, secs_cons]
  have hp : S.set x (S[x].set m n) = S.take x ++ (S[x].set m n) :: S.drop (x + 1) := by
    rw [List.set_eq_take_append_cons_drop, if_pos hx]
  rw [hp, secs_append, secs_cons, u8s_set, hsec, List.set_append_right _ _ (by omega), hA, show x * 64 + m - x * 64 = m from by omega, List.set_append_left _ _ (by simp [hx64]; omega)]

theorem putN_succ {S : List (List Nat)} (h64 : ∀ s ∈ S, s.length = 64) {x m : Nat} (hx : x < S.length) (hm : m < 64) {d : List Nat} (hd : d.length = 64) : (secs (putN S x m d)).set (x * 64 + m) (.int .u8 ((d[m]'(by omega) : Nat))) = secs (putN S x (m + 1) d) := by
  have hxp : x < (putN S x m d).length := by rw [putN_len]; exact hx
  rw [secs_set (putN_64 h64 hd hx (by omega)) hxp hm]
  congr 1
  have e : (putN S x m d)[x]'hxp = d.take m ++ (S.getD x []).drop m := by simp [putN]
  have hs : (S.getD x []).length = 64 := by
    rw [List.getD_eq_getElem?_getD, List.getElem?_eq_getElem hx]
    exact h64 _ (List.getElem_mem hx)
  rw [e]
  unfold putN
  rw [List.set_set]
  congr 1
  generalize S.getD x [] = t at *
  apply List.ext_getElem
  · simp [hd, hs]; omega
  · intro i h1 h2
    simp only [List.length_set, List.length_append, List.length_take, List.length_drop, hd, hs] at h1
    rw [List.getElem_set]
    by_cases e1 : m = i
    · subst e1
      rw [if_pos rfl, List.getElem_append_left (by simp [hd]; omega), List.getElem_take]
    · rw [if_neg e1]
      by_cases e2 : i < m
      · rw [List.getElem_append_left (by simp [hd]; omega), List.getElem_append_left (by simp [hd]; omega), List.getElem_take, List.getElem_take]
      · rw [List.getElem_append_right (by simp [hd]; omega), List.getElem_append_right (by simp [hd]; omega), List.getElem_drop, List.getElem_drop]
        congr 1
        simp [hd]
        omega

theorem row_store {w : World} {E : TypeId} {sz g n c p : Nat} {xs : List Value} (h : w.ownsRow 0 E sz (.slice (some ⟨g, 0, none⟩) n c) n xs) (hp : p < n * sz) (v : Value) : (w.setCell ⟨g, p, none⟩ v).ownsRow 0 E sz (.slice (some ⟨g, 0, none⟩) n c) n (xs.set p v) := by
  rcases h.2 with ⟨e, _⟩ | ⟨g', cap, cur, e, _, hh, hc, hm, hsz, ht⟩
  · cases e
  · obtain ⟨rfl, rfl⟩ : g = g' ∧ c = cap := by simpa using e
    refine ⟨by simpa using h.1, .inr ⟨g, c, cur.setIfInBounds p v, rfl, Nat.zero_le _, heap_setCell_same w g p cur E v hh, hc, hm, by simpa using hsz, ?_⟩⟩
    rw [Array.toList_setIfInBounds, List.take_set, ht]
theorem row_cell {w : World} {E : TypeId} {sz g n c p : Nat} {xs : List Value} (h : w.ownsRow 0 E sz (.slice (some ⟨g, 0, none⟩) n c) n xs) (hp : p < n * sz) : (∃ u, w.cell? ⟨g, p, none⟩ = some u) ∧ w.frozen? ⟨g, p, none⟩ = false := by
  rcases h.2 with ⟨e, _⟩ | ⟨g', cap, cur, e, _, hh, hc, hm, hsz, ht⟩
  · cases e
  · obtain ⟨rfl, rfl⟩ : g = g' ∧ c = cap := by simpa using e
    have : p < cur.size := by
      have := Nat.mul_le_mul_right sz hc
      omega
    exact ⟨⟨cur[p], by rw [cell_of_row _ _ p _ _ _ hh, Array.getElem?_eq_getElem this]⟩, frozen_of_row _ _ _ _ _ hh⟩

theorem step_store5 {ops : Array Oper} {o : Oper} {a : Act} {w : World} {K : Act → World → Prop} {Q : Exit → Act → World → Prop} {E : Prop} (hg : o.guard = none) {g p : Nat} (x y : Operand) (ho : o.op = .store 5 x y) (hx : a.eval x = .pointer (some ⟨g, p, none⟩)) {n : Int} (hy : a.eval y = .int .u8 n) {u : Value} (hc : w.cell? ⟨g, p, none⟩ = some u) (hf : w.frozen? ⟨g, p, none⟩ = false)
    (hK : K (a.put o.dst undef) (w.setCell ⟨g, p, none⟩ (.int .u8 n))) : if Region.wanted o (yielded ops a.tmps) = true then Oper.wp Try.prog o a w K Q else E := by
  have hw : Region.wanted o (yielded ops a.tmps) = true := by simp [Region.wanted, hg]
  rw [if_pos hw]
  unfold Oper.wp execOp
  simp only [ho, hx, hy]
  go_simp
  exact hK

set_option maxRecDepth 100000 in
set_option maxHeartbeats 1000000 in
theorem rcrash {w : World} {q : Nat} {sv uv : Value} {S : List (List Nat)} {W : List (Nat × List Nat)} {arm : Nat} {off : Bool} (h0 : RDk w q sv uv S W arm off) (hG : Good S W) (v : Value) (K : List Int) (hk : IntB w v K) (hko : 0 < K.length → ∀ k, v.ownBlock = some k → ¬ RMine q sv uv k) :
    Calls Try.prog 18 #[.pointer (some ⟨q, 0, none⟩), v] w fun e w' => REnd w q sv uv (crashed S W K) [] arm true (.tuple #[]) e w' := by
  have hwl := hG.wl
  obtain ⟨ua, uc, rfl⟩ := own_shape h0.waits
  obtain ⟨va, vc, rfl, hKl⟩ := hk.shape
  have c3 := h0.row.cell3
  have f3 := h0.row.free 3
  have h : RDk (w.setCell ⟨q, 3, none⟩ (.bool true)) q sv (.slice ua W.length uc) S W arm true := h0.turned (h0.row.set3 true) (Beside.one _ _ _ _)
  have HKI : Hid (∀ i (hi : i < K.length), ∃ vb vo, va = some ⟨vb, vo, none⟩ ∧ K.length ≤ vc ∧ vb < w.heap.size ∧ vb ≠ q ∧ sv.ownBlock ≠ some vb ∧ w.cell? ⟨vb, vo + i, none⟩ = some (.int .i64 K[i])) := Lib.hid fun i hi => by
    rcases hk with ⟨_, rfl⟩ | ⟨b, of, cap, e, h1, h2, h3⟩
    · simp at hi
    · obtain ⟨rfl, rfl⟩ : va = some ⟨b, of, none⟩ ∧ vc = cap := by simpa using e
      have := h3 i hi
      exact ⟨b, of, rfl, h1, World.block_lt_of_cell? w _ this, fun e => hko (by omega) b rfl (.inl e), fun e => hko (by omega) b rfl (.inr (.inl e)), this⟩
  have HB0 : Hid (Beside (· = q) w (w.setCell ⟨q, 3, none⟩ (.bool true))) := Lib.hid (Beside.one _ _ _ _)
  have H := Lib.hid h
  clear hk hko h h0
  go_enter Try.func18, Try.ntmps18
  go_wp2_with fail
  generalize w.setCell ⟨q, 3, none⟩ (.bool true) = ws at *
  clear c3 f3
  go_loopw [4] (fun i wr => ∃ k : Nat, k ≤ W.length ∧ i = .int .i64 (k : Int) ∧ Lay S (((W.zip K).take k).foldl (fun S y => putN S y.1.1 (cl y.2) y.1.2) S) ∧ wr.ownsRow 0 65 64 sv S.length (secs (((W.zip K).take k).foldl (fun S y => putN S y.1.1 (cl y.2) y.1.2) S)) ∧ Beside (fun k => sv.ownBlock = some k) ws wr) (fun i _ => (W.length - intOf i).toNat)
  case atStart => exact ⟨0, Nat.zero_le _, rfl, by simpa using hG.lay, by simpa using H.out.kept, Beside.refl _ _⟩
  case round =>
    obtain ⟨k, hkW, rfl, hlay, hrow, hbes⟩ := hrel
    have hv := H.out.row.beside hbes (fun hk => ownsRow_ne H.out.kept H.out.row (by decide) q hk rfl)
    have c1 := hv.cell1
    have g1 := hv.free 1
    have HV := Lib.hid hv
    have HROW := Lib.hid hrow
    have HLAY := Lib.hid hlay
    have HB := Lib.hid hbes
    clear hrow hlay hbes hv
    by_cases hk : k < W.length
    · have hki : (k : Int) < (W.length : Int) := by omega
      have hx := hG.wat _ (List.getElem_mem hk)
      have hd64 := hG.w64 _ (List.getElem_mem hk)
      have HD256 := Lib.hid (hG.w256 _ (List.getElem_mem hk))
      by_cases hk2 : k < K.length
      · have hki2 : (k : Int) < (K.length : Int) := by omega
        have HST : Hid (((W.zip K).take (k + 1)).foldl (fun S y => putN S y.1.1 (cl y.2) y.1.2) S = putN (((W.zip K).take k).foldl (fun S y => putN S y.1.1 (cl y.2) y.1.2) S) (W[k]).1 (cl K[k]) (W[k]).2) := Lib.hid (by rw [fold_take _ _ _ k (by simp; omega)]; simp)
        obtain ⟨vb, vo, rfl, hvc, hvb, hvq, hvs, hcell⟩ := HKI.out k hk2
        have hcr : wr.cell? ⟨vb, vo + k, none⟩ = some (.int .i64 K[k]) := by
          rw [World.cell?_of_block (w := ws) (HB.out.block vb (Nat.lt_of_lt_of_le hvb HB0.out.size) hvs), World.cell?_of_block (w := w) (HB0.out.block vb hvb hvq)]
          exact hcell
        have hkvc : k < vc := by omega
        clear hcell
        generalize K[k] = kk at *
        generalize hT : ((W.zip K).take k).foldl (fun S y => putN S y.1.1 (cl y.2) y.1.2) S = T at HST HLAY HROW
        clear hT
        have hrowT := HROW.out
        rw [← HLAY.out.len] at hrowT
        obtain ⟨sg, sc, esv, hsc, hsg, -, hsm⟩ := sec_any hrowT HLAY.out.s64 (i := (W[k]).1) (by rw [HLAY.out.len]; exact hx)
        rw [HLAY.out.len] at esv hsc
        subst esv
        clear hrowT
        have hwrow : wr.ownsRow 0 72 65 (.slice ua W.length uc) W.length (wcells W) := ownsRow_beside H.out.waits HB.out (fun k hk hk2 => by
          rcases HROW.out.2 with ⟨e, _⟩ | ⟨g, cap, cur, e, _, hh, _⟩
          · rw [e] at hk2; cases hk2
          · rcases H.out.kept.2 with ⟨e2, _⟩ | ⟨g2, cap2, cur2, e2, _, hh2, _⟩
            · rw [e2] at hk2; cases hk2
            · rw [e2] at hk2
              simp [Value.ownBlock] at hk2
              subst hk2
              exact ownsRow_ne H.out.waits hh2 (by decide) _ hk rfl)
        obtain ⟨wg, wc', ewv, hwc, hwg, hrng, hwm⟩ := wait_any hwrow hG.w64 hk
        obtain ⟨rfl, rfl⟩ : ua = some ⟨wg, 0, none⟩ ∧ uc = wc' := by simpa using ewv
        have hkc : k < uc := by omega
        have hwsg : wg ≠ sg := by
          rcases HROW.out.2 with ⟨e, _⟩ | ⟨g, cap, cur, e, _, hh, _⟩
          · cases e
          · obtain ⟨rfl, rfl⟩ : sg = g ∧ sc = cap := by simpa using e
            exact ownsRow_ne hwrow hh (by decide) _ rfl
        have hqsg : q ≠ sg := fun e => by
          have := ownsRow_ne HROW.out HV.out (by decide) sg rfl
          exact this e.symm
        have hxi : (((W[k]).1 : Nat) : Int) < (S.length : Int) := by omega
        have hxc : (W[k]).1 < sc := by omega
        have HRNG := Lib.hid hrng
        clear ewv hwrow hrng
        go_wp2_with fail
        rw [show max 0 (min kk 64) = ((cl kk : Nat) : Int) from by unfold cl; omega]
        have hn := cl_le kk
        generalize cl kk = n at *
        go_wp2_with fail
        generalize wr = wo at *
        go_loopw [6] (fun i wr => ∃ m : Nat, m ≤ n ∧ i = .int .i64 (m : Int) ∧ wr.ownsRow 0 65 64 (.slice (some ⟨sg, 0, none⟩) S.length sc) S.length (secs (putN T (W[k]).1 m (W[k]).2)) ∧ Beside (fun k => k = sg) wo wr) (fun i _ => (n - intOf i).toNat)
        case atStart => exact ⟨0, Nat.zero_le _, rfl, by rw [putN_zero _ (by rw [HLAY.out.len]; exact hx)]; exact HROW.out, Beside.refl _ _⟩
        case round =>
          obtain ⟨m, hm, rfl, hri, hbi⟩ := hrel
          have hvi := HV.out.beside hbi hqsg
          have c0 := hvi.cell0
          have c1 := hvi.cell1
          have hcut : ∀ j v, (wcell W[k])[j]? = some v → wr.cell? ⟨wg, k * 65 + j, none⟩ = some v := fun j v hj => by
            rw [World.cell?_of_block (w := wo) (hbi.block wg hwg hwsg)]
            exact HRNG.out j v hj
          have ct : wr.cell? ⟨wg, k * 65, none⟩ = some (.int .i64 ((W[k]).1 : Nat)) := hcut 0 _ (by simp [wcell])
          have HVI := Lib.hid hvi
          have HRI := Lib.hid hri
          have HBI := Lib.hid hbi
          by_cases hmn : m < n
          · have hmi : (m : Int) < (n : Int) := by omega
            have hm64 : m < 64 := by omega
            have hm64i : (m : Int) < 64 := by omega
            have cb : wr.cell? ⟨wg, k * 65 + 1 + m, none⟩ = some (.int .u8 ((W[k]).2[m]'(by omega) : Nat)) := by
              have := hcut (m + 1) (.int .u8 ((W[k]).2[m]'(by omega) : Nat)) (by simp [wcell, u8s, hd64, hm64])
              rwa [show k * 65 + (m + 1) = k * 65 + 1 + m from by omega] at this
            have hpos : (W[k]).1 * 64 + m < S.length * 64 := by omega
            obtain ⟨⟨u, hu⟩, hfr⟩ := row_cell HRI.out hpos
            have HNEW := Lib.hid (row_store HRI.out hpos (.int .u8 ((W[k]).2[m]'(by omega) : Nat)))
            have HSUC := Lib.hid (putN_succ HLAY.out.s64 (by rw [HLAY.out.len]; exact hx) hm64 hd64)
            generalize (W[k]).2[m]'(by omega) = bm at *
            clear hcut hri hbi hvi
            go_wp2_with fail
            refine wp_region_held_drew (S := fun w' => w'.cell? ⟨q, 0, none⟩ = some (.slice (some ⟨sg, 0, none⟩) S.length sc) ∧ w'.cell? ⟨q, 1, none⟩ = some (.slice (some ⟨wg, 0, none⟩) W.length uc) ∧ w'.cell? ⟨wg, k * 65, none⟩ = some (.int .i64 ((W[k]).1 : Nat)) ∧ w'.cell? ⟨wg, k * 65 + 1 + m, none⟩ = some (.int .u8 (bm : Nat))) (by kernel_rfl) ⟨c0, c1, ct, cb⟩ (fun hHeld => ?_)
            refine wpAnyH_take (i := 0) (oi := ⟨_, _, _, _, _, _⟩) (v := ?_) rfl (by kernel_rfl) (by kernel_rfl) (by kernel_rfl) (fun _ _ _ h => h) (Or.inl ⟨by rfl, ?_⟩) (by assumption) ?_
            rotate_left
            · intro w hSw; (try dsimp only at hSw); go_simp <;> with_reducible rfl
            simp only [Act.put, List.setIfInBounds_toArray, List.set_cons_zero, List.set_cons_succ]
            refine wpAnyH_take (i := 1) (oi := ⟨_, _, _, _, _, _⟩) (v := ?_) rfl (by kernel_rfl) (by kernel_rfl) (by kernel_rfl) (fun _ _ _ h => h) (Or.inl ⟨by rfl, ?_⟩) (by assumption) ?_
            rotate_left
            · intro w hSw; (try dsimp only at hSw); go_simp <;> with_reducible rfl
            simp only [Act.put, List.setIfInBounds_toArray, List.set_cons_zero, List.set_cons_succ]
            refine wpAnyH_take (i := 2) (oi := ⟨_, _, _, _, _, _⟩) (v := ?_) rfl (by kernel_rfl) (by kernel_rfl) (by kernel_rfl) (fun _ _ _ h => h) (Or.inl ⟨by rfl, ?_⟩) (by assumption) ?_
            rotate_left
            · intro w hSw; (try dsimp only at hSw); go_simp <;> with_reducible rfl
            simp only [Act.put, List.setIfInBounds_toArray, List.set_cons_zero, List.set_cons_succ]
            refine wpAnyH_take (i := 3) (oi := ⟨_, _, _, _, _, _⟩) (v := ?_) rfl (by kernel_rfl) (by kernel_rfl) (by kernel_rfl) (fun _ _ _ h => h) (Or.inl ⟨by rfl, ?_⟩) (by assumption) ?_
            rotate_left
            · intro w hSw; (try dsimp only at hSw); go_simp <;> with_reducible rfl
            simp only [Act.put, List.setIfInBounds_toArray, List.set_cons_zero, List.set_cons_succ]
            refine wpAnyH_take (i := 4) (oi := ⟨_, _, _, _, _, _⟩) (v := ?_) rfl (by kernel_rfl) (by kernel_rfl) (by kernel_rfl) (fun _ _ _ h => h) (Or.inl ⟨by rfl, ?_⟩) (by assumption) ?_
            rotate_left
            · intro w hSw; (try dsimp only at hSw); go_simp <;> with_reducible rfl
            simp only [Act.put, List.setIfInBounds_toArray, List.set_cons_zero, List.set_cons_succ]
            refine wpAnyH_take (i := 5) (oi := ⟨_, _, _, _, _, _⟩) (v := ?_) rfl (by kernel_rfl) (by kernel_rfl) (by kernel_rfl) (fun _ _ _ h => h) (Or.inl ⟨by rfl, ?_⟩) (by assumption) ?_
            rotate_left
            · intro w hSw; (try dsimp only at hSw); go_simp <;> with_reducible rfl
            simp only [Act.put, List.setIfInBounds_toArray, List.set_cons_zero, List.set_cons_succ]
            refine wpAnyH_take (i := 6) (oi := ⟨_, _, _, _, _, _⟩) (v := ?_) rfl (by kernel_rfl) (by kernel_rfl) (by kernel_rfl) (fun _ _ _ h => h) (Or.inl ⟨by rfl, ?_⟩) (by assumption) ?_
            rotate_left
            · intro w hSw; (try dsimp only at hSw); go_simp <;> with_reducible rfl
            simp only [Act.put, List.setIfInBounds_toArray, List.set_cons_zero, List.set_cons_succ]
            refine wpAnyH_take (i := 7) (oi := ⟨_, _, _, _, _, _⟩) (v := ?_) rfl (by kernel_rfl) (by kernel_rfl) (by kernel_rfl) (fun _ _ _ h => h) (Or.inl ⟨by rfl, ?_⟩) (by assumption) ?_
            rotate_left
            · intro w hSw; (try dsimp only at hSw); go_simp <;> with_reducible rfl
            simp only [Act.put, List.setIfInBounds_toArray, List.set_cons_zero, List.set_cons_succ]
            refine wpAnyH_take (i := 8) (oi := ⟨_, _, _, _, _, _⟩) (v := ?_) rfl (by kernel_rfl) (by kernel_rfl) (by kernel_rfl) (fun _ _ _ h => h) (Or.inl ⟨by rfl, ?_⟩) (by assumption) ?_
            rotate_left
            · intro w hSw; (try dsimp only at hSw); go_simp <;> with_reducible rfl
            simp only [Act.put, List.setIfInBounds_toArray, List.set_cons_zero, List.set_cons_succ]
            refine wpAnyH_take (i := 9) (oi := ⟨_, _, _, _, _, _⟩) (v := ?_) rfl (by kernel_rfl) (by kernel_rfl) (by kernel_rfl) (fun _ _ _ h => h) (Or.inl ⟨by rfl, ?_⟩) (by assumption) ?_
            rotate_left
            · intro w hSw; (try dsimp only at hSw); go_simp <;> with_reducible rfl
            simp only [Act.put, List.setIfInBounds_toArray, List.set_cons_zero, List.set_cons_succ]
            refine wpAnyH_take (i := 10) (oi := ⟨_, _, _, _, _, _⟩) (v := ?_) rfl (by kernel_rfl) (by kernel_rfl) (by kernel_rfl) (fun _ _ _ h => h) (Or.inl ⟨by rfl, ?_⟩) (by assumption) ?_
            rotate_left
            · intro w hSw; (try dsimp only at hSw); go_simp <;> with_reducible rfl
            simp only [Act.put, List.setIfInBounds_toArray, List.set_cons_zero, List.set_cons_succ]
            refine wpAnyH_take (i := 11) (oi := ⟨_, _, _, _, _, _⟩) (v := ?_) rfl (by kernel_rfl) (by kernel_rfl) (by kernel_rfl) (fun _ _ _ h => h) (Or.inl ⟨by rfl, ?_⟩) (by assumption) ?_
            rotate_left
            · intro w hSw; (try dsimp only at hSw); go_simp <;> with_reducible rfl
            simp only [Act.put, List.setIfInBounds_toArray, List.set_cons_zero, List.set_cons_succ]
            refine wpAnyH_take (i := 12) (oi := ⟨_, _, _, _, _, _⟩) (v := ?_) rfl (by kernel_rfl) (by kernel_rfl) (by kernel_rfl) (fun _ _ _ h => h) (Or.inl ⟨by rfl, ?_⟩) (by assumption) ?_
            rotate_left
            · intro w hSw; (try dsimp only at hSw); go_simp <;> with_reducible rfl
            simp only [Act.put, List.setIfInBounds_toArray, List.set_cons_zero, List.set_cons_succ]
            refine wpAnyH_take (i := 13) (oi := ⟨_, _, _, _, _, _⟩) (v := ?_) rfl (by kernel_rfl) (by kernel_rfl) (by kernel_rfl) (fun _ _ _ h => h) (Or.inl ⟨by rfl, ?_⟩) (by assumption) ?_
            rotate_left
            · intro w hSw; (try dsimp only at hSw); go_simp <;> with_reducible rfl
            simp only [Act.put, List.setIfInBounds_toArray, List.set_cons_zero, List.set_cons_succ]
            refine wpAnyH_take (i := 14) (oi := ⟨_, _, _, _, _, _⟩) (v := ?_) rfl (by kernel_rfl) (by kernel_rfl) (by kernel_rfl) (fun _ _ _ h => h) (Or.inl ⟨by rfl, ?_⟩) (by assumption) ?_
            rotate_left
            · intro w hSw; (try dsimp only at hSw); go_simp <;> with_reducible rfl
            simp only [Act.put, List.setIfInBounds_toArray, List.set_cons_zero, List.set_cons_succ]
            refine wpAnyH_take (i := 15) (oi := ⟨_, _, _, _, _, _⟩) (v := ?_) rfl (by kernel_rfl) (by kernel_rfl) (by kernel_rfl) (fun _ _ _ h => h) (Or.inl ⟨by rfl, ?_⟩) (by assumption) ?_
            rotate_left
            · intro w hSw; (try dsimp only at hSw); go_simp <;> with_reducible rfl
            simp only [Act.put, List.setIfInBounds_toArray, List.set_cons_zero, List.set_cons_succ]
            refine wpAnyH_take (i := 16) (oi := ⟨_, _, _, _, _, _⟩) (v := ?_) rfl (by kernel_rfl) (by kernel_rfl) (by kernel_rfl) (fun _ _ _ h => h) (Or.inl ⟨by rfl, ?_⟩) (by assumption) ?_
            rotate_left
            · intro w hSw; (try dsimp only at hSw); go_simp <;> with_reducible rfl
            simp only [Act.put, List.setIfInBounds_toArray, List.set_cons_zero, List.set_cons_succ]
            refine wpAnyH_take (i := 17) (oi := ⟨_, _, _, _, _, _⟩) (v := ?_) rfl (by kernel_rfl) (by kernel_rfl) (by kernel_rfl) (fun _ _ _ h => h) (Or.inl ⟨by rfl, ?_⟩) (by assumption) ?_
            rotate_left
            · intro w hSw; (try dsimp only at hSw); go_simp <;> with_reducible rfl
            simp only [Act.put, List.setIfInBounds_toArray, List.set_cons_zero, List.set_cons_succ]
            refine wpAnyH_take (i := 18) (oi := ⟨_, _, _, _, _, _⟩) (v := ?_) rfl (by kernel_rfl) (by kernel_rfl) (by kernel_rfl) (fun _ _ _ h => h) (Or.inl ⟨by rfl, ?_⟩) (by assumption) ?_
            rotate_left
            · intro w hSw; (try dsimp only at hSw); go_simp <;> with_reducible rfl
            simp only [Act.put, List.setIfInBounds_toArray, List.set_cons_zero, List.set_cons_succ]
            refine wpAnyH_take (i := 19) (oi := ⟨_, _, _, _, _, _⟩) (v := ?_) rfl (by kernel_rfl) (by kernel_rfl) (by kernel_rfl) (fun _ _ _ h => h) (Or.inl ⟨by rfl, ?_⟩) (by assumption) ?_
            rotate_left
            · intro w hSw; (try dsimp only at hSw); go_simp <;> with_reducible rfl
            simp only [Act.put, List.setIfInBounds_toArray, List.set_cons_zero, List.set_cons_succ]
            refine wpAnyH_take (i := 20) (oi := ⟨_, _, _, _, _, _⟩) (v := ?_) rfl (by kernel_rfl) (by kernel_rfl) (by kernel_rfl) (fun _ _ _ h => h) (Or.inl ⟨by rfl, ?_⟩) (by assumption) ?_
            rotate_left
            · intro w hSw; (try dsimp only at hSw); go_simp <;> with_reducible rfl
            simp only [Act.put, List.setIfInBounds_toArray, List.set_cons_zero, List.set_cons_succ]
            refine wpAnyH_take (i := 21) (oi := ⟨_, _, _, _, _, _⟩) (v := ?_) rfl (by kernel_rfl) (by kernel_rfl) (by kernel_rfl) (fun _ _ _ h => h) (Or.inl ⟨by rfl, ?_⟩) (by assumption) ?_
            rotate_left
            · intro w hSw; (try dsimp only at hSw); go_simp <;> with_reducible rfl
            simp only [Act.put, List.setIfInBounds_toArray, List.set_cons_zero, List.set_cons_succ]
            refine wpAnyH_take (i := 22) (oi := ⟨_, _, _, _, _, _⟩) (v := ?_) rfl (by kernel_rfl) (by kernel_rfl) (by kernel_rfl) (fun _ _ _ h => h) (Or.inl ⟨by rfl, ?_⟩) (by assumption) ?_
            rotate_left
            · intro w hSw; (try dsimp only at hSw); go_simp <;> with_reducible rfl
            simp only [Act.put, List.setIfInBounds_toArray, List.set_cons_zero, List.set_cons_succ]
            refine wpAnyH_take (i := 23) (oi := ⟨_, _, _, _, _, _⟩) (v := ?_) rfl (by kernel_rfl) (by kernel_rfl) (by kernel_rfl) (fun _ _ _ h => h) (Or.inl ⟨by rfl, ?_⟩) (by assumption) ?_
            rotate_left
            · intro w hSw; (try dsimp only at hSw); go_simp <;> with_reducible rfl
            simp only [Act.put, List.setIfInBounds_toArray, List.set_cons_zero, List.set_cons_succ]
            refine wpAnyH_take (i := 24) (oi := ⟨_, _, _, _, _, _⟩) (v := ?_) rfl (by kernel_rfl) (by kernel_rfl) (by kernel_rfl) (fun _ _ _ h => h) (Or.inl ⟨by rfl, ?_⟩) (by assumption) ?_
            rotate_left
            · intro w hSw; (try dsimp only at hSw); go_simp <;> with_reducible rfl
            simp only [Act.put, List.setIfInBounds_toArray, List.set_cons_zero, List.set_cons_succ]
            refine wpAnyH_ready (rs := [25]) (by kernel_rfl) (by simp) ?_
            refine AllReadyH.cons (o := ⟨_, _, _, _, _, _⟩) rfl (fun K hK => ?_) AllReadyH.nil
            refine step_store5 rfl (.tmp 58) (.tmp 56) rfl rfl rfl (u := u) hu hfr (hK.out _ _ ?_ (fun hHeld2 => ?_))
            · exact ⟨(World.cell?_setCell_other _ _ _ _ (by simp <;> (intro e; exact absurd e.symm hqsg))).trans c0, (World.cell?_setCell_other _ _ _ _ (by simp <;> (intro e; exact absurd e.symm hqsg))).trans c1, (World.cell?_setCell_other _ _ _ _ (by simp <;> (intro e; exact absurd e.symm hwsg))).trans ct, (World.cell?_setCell_other _ _ _ _ (by simp <;> (intro e; exact absurd e.symm hwsg))).trans cb⟩
            clear hK K
            refine wpAnyH_done (by kernel_rfl) ?_ _
            go_wp2_with fail
            go_roundw
            case rel =>
              refine ⟨m + 1, by omega, by go_num, ?_, HBI.out.drew.set _⟩
              rw [← HSUC.out]
              exact HNEW.out
            case measure => simp [intOf]; omega
          · obtain rfl : m = n := by omega
            clear hcut hri hbi hvi
            go_wp2_with fail
            go_roundw
            case rel =>
              refine ⟨k + 1, by omega, by go_num, ?_, ?_, ?_⟩
              · rw [HST.out]
                exact HLAY.out.put hx hn hd64 HD256.out
              · rw [HST.out]
                exact HRI.out
              · exact HB.out.trans (HBI.out.mono fun k _ hk => by subst hk; simp [Value.ownBlock])
            case measure => simp [intOf]; omega
      · have hki2 : ¬ (k : Int) < (K.length : Int) := by omega
        have HST : Hid (((W.zip K).take (k + 1)).foldl (fun S y => putN S y.1.1 (cl y.2) y.1.2) S = ((W.zip K).take k).foldl (fun S y => putN S y.1.1 (cl y.2) y.1.2) S) := Lib.hid (by rw [List.take_of_length_le (by simp; omega), List.take_of_length_le (by simp; omega)])
        go_wp2_with fail
        refine wp_loop_rounds 1 ?_
        rw [rounds_succ]
        go_wp2_with fail
        go_roundw
        case rel =>
          refine ⟨k + 1, by omega, by go_num, ?_, ?_, HB.out⟩
          · rw [HST.out]
            exact HLAY.out
          · rw [HST.out]
            exact HROW.out
        case measure => simp [intOf]; omega
    · obtain rfl : k = W.length := by omega
      have HLX : Hid (Lay S (crashed S W K)) := Lib.hid (by have := HLAY.out; rwa [List.take_of_length_le (by simp; omega)] at this)
      have HRX : Hid (wr.ownsRow 0 65 64 sv S.length (secs (crashed S W K))) := Lib.hid (by have := HROW.out; rwa [List.take_of_length_le (by simp; omega)] at this)
      go_wp2_with fail
      go_end0
      obtain ⟨sv', uv', _, hd, hb, ho⟩ := rlaid_fin (v := .tuple #[]) H.out HLX.out HRX.out HB.out (HV.out.set1 _) ((Beside.refl _ _).set (.slice none 0 0))
      exact ⟨sv', uv', rfl, hd, HB0.out.mine.trans hb, fun k hk => (ho k hk).imp id (fun ⟨h1, h2⟩ => ⟨Nat.le_trans HB0.out.size h1, h2⟩)⟩
end Go.Proofs.Ytgdfobhhkfplbaa
