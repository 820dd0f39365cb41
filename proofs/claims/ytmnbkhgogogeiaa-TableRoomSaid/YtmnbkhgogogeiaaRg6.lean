/-
  Several texts of one proof, each in a section of its own: Laid, Crash, Flush.
-/
import Derived.Test.YtmnbkhgogogeiaaWriteRg
import Derived.Lib.MinMax
import Derived.Deep.RegionHeld3
namespace Go.Proofs.Ytmnbkhgogogeiaa
section
set_option linter.unusedVariables false
open Go.RowKit

/-- the first n bytes of a sector are others -/
def putN (S : List (List Nat)) (x n : Nat) (d : List Nat) : List (List Nat) := S.set x (d.take n ++ (S.getD x []).drop n)
theorem putN_len (S : List (List Nat)) (x n : Nat) (d : List Nat) : (putN S x n d).length = S.length := by simp [putN]
theorem putN_64 {S : List (List Nat)} {x n : Nat} {d : List Nat} (h : ∀ s ∈ S, s.length = 64) (hd : d.length = 64) (hx : x < S.length) (hn : n ≤ 64) : ∀ s ∈ putN S x n d, s.length = 64 := by
  intro s hs
  rcases List.mem_or_eq_of_mem_set hs with hs | rfl
  · exact h s hs
  · have := h _ (List.getElem_mem hx)
    simp [List.getD_eq_getElem?_getD, hx, hd, this]
    omega
theorem putN_256 {S : List (List Nat)} {x n : Nat} {d : List Nat} (h : ∀ s ∈ S, ∀ n ∈ s, n < 256) (hd : ∀ n ∈ d, n < 256) (hx : x < S.length) : ∀ s ∈ putN S x n d, ∀ n ∈ s, n < 256 := by
  intro s hs m hm
  rcases List.mem_or_eq_of_mem_set hs with hs | rfl
  · exact h s hs m hm
  · rcases List.mem_append.1 hm with hm | hm
    · exact hd m (List.mem_of_mem_take hm)
    · have := List.mem_of_mem_drop hm
      rw [List.getD_eq_getElem?_getD, List.getElem?_eq_getElem hx] at this
      exact h _ (List.getElem_mem hx) m this

theorem secs_append (a b : List (List Nat)) : secs (a ++ b) = secs a ++ secs b := by simp [secs]
theorem secs_cons (a : List Nat) (b : List (List Nat)) : secs (a :: b) = u8s a ++ secs b := by simp [secs]
theorem u8s_drop (l : List Nat) (n : Nat) : (u8s l).drop n = u8s (l.drop n) := by simp [u8s, List.map_drop]

theorem put_list {S : List (List Nat)} (h64 : ∀ s ∈ S, s.length = 64) {x n : Nat} (hx : x < S.length) (hn : n ≤ 64) {d : List Nat} (hd : d.length = 64) (L : List Value) (hL : L.take (S.length * 64) = secs S) (hle : S.length * 64 ≤ L.length) :
    (L.take (x * 64) ++ (u8s (d.take n) ++ L.drop (x * 64 + n))).take (S.length * 64) = secs (putN S x n d) := by
  have hS : S = S.take x ++ S[x] :: S.drop (x + 1) := by rw [List.getElem_cons_drop, List.take_append_drop]
  have hx64 := h64 _ (List.getElem_mem hx)
  have hA : (secs (S.take x)).length = x * 64 := by
    rw [secs_length _ (fun s hs => h64 s (List.mem_of_mem_take hs))]
    simp
    omega
  have hC : (secs (S.drop (x + 1))).length = (S.length - (x + 1)) * 64 := by
    rw [secs_length _ (fun s hs => h64 s (List.mem_of_mem_drop hs))]
    simp
  have hsec : secs S = secs (S.take x) ++ (u8s S[x] ++ secs (S.drop (x + 1))) := by
    conv => lhs; rw [hS]
    rw [secs_append, secs_cons]
  have hL2 : L = secs (S.take x) ++ (u8s S[x] ++ (secs (S.drop (x + 1)) ++ L.drop (S.length * 64))) := by
    conv => lhs; rw [← List.take_append_drop (S.length * 64) L, hL, hsec]
    simp
  have hp : putN S x n d = S.take x ++ (d.take n ++ S[x].drop n) :: S.drop (x + 1) := by
    unfold putN
    rw [List.set_eq_take_append_cons_drop, if_pos hx, List.getD_eq_getElem?_getD, List.getElem?_eq_getElem hx]
    rfl
  rw [hp, secs_append, secs_cons, u8s_append]
  clear hp hS
  generalize hR : L.drop (S.length * 64) = R at hL2
  generalize secs (S.take x) = A at *
  generalize secs (S.drop (x + 1)) = C at *
  have e1 : L.take (x * 64) = A := by rw [hL2, ← hA]; simp
  have e2 : L.drop (x * 64 + n) = u8s (S[x].drop n) ++ (C ++ R) := by
    rw [hL2, ← List.drop_drop, ← hA, List.drop_left, List.drop_append_of_le_length (by simp [hx64]; omega), u8s_drop]
  rw [e1, e2]
  have hlen : S.length * 64 = (A ++ ((u8s (d.take n) ++ u8s (S[x].drop n)) ++ C)).length := by
    simp [hA, hC, hd, hx64]
    omega
  rw [show A ++ (u8s (d.take n) ++ (u8s (S[x].drop n) ++ (C ++ R))) = (A ++ ((u8s (d.take n) ++ u8s (S[x].drop n)) ++ C)) ++ R from by simp, hlen, List.take_left]

/-- the row behind it -/
theorem put_row {w : World} {kv : Value} {S : List (List Nat)} (hrow : w.ownsRow 0 143 64 kv S.length (secs S)) (h64 : ∀ s ∈ S, s.length = 64) {x n : Nat} (hx : x < S.length) (hn : n ≤ 64) {d : List Nat} (hd : d.length = 64) :
    ∃ kg kc cur, kv = .slice (some ⟨kg, 0, none⟩) S.length kc ∧ S.length ≤ kc ∧ kc ≤ maxLen ∧ w.heap[kg]? = some (.cells cur 143 (0, 0)) ∧ x * 64 + n ≤ cur.size ∧
      (w.setRow kg (cur.toList.take (x * 64) ++ (u8s (d.take n) ++ cur.toList.drop (x * 64 + n))).toArray).ownsRow 0 143 64 kv S.length (secs (putN S x n d)) := by
  rcases hrow.2 with ⟨_, h0⟩ | ⟨kg, kc, cur, rfl, _, hh, hc, hm, hsz, ht⟩
  · omega
  · have hle : S.length * 64 ≤ cur.toList.length := by simp [hsz]; omega
    have hfit : x * 64 + n ≤ cur.size := by simp at hle; omega
    refine ⟨kg, kc, cur, rfl, hc, hm, hh, hfit, ⟨?_, .inr ⟨kg, kc, _, rfl, Nat.zero_le _, setRow_heap w kg cur _ 143 _ hh, hc, hm, ?_, ?_⟩⟩⟩
    · rw [secs_length _ (putN_64 h64 hd hx hn), putN_len]
    · simp [hd]; omega
    · exact put_list h64 hx hn hd cur.toList ht hle

theorem Beside.setRow {own : Nat → Prop} {a w : World} (h : Beside own a w) {g : Nat} (hp : own g ∨ a.heap.size ≤ g) (cs : Array Value) : Beside own a (w.setRow g cs) :=
  ⟨h.os, h.tape, h.output, by simpa using h.size, fun i hi hn => (setRow_other w g i cs (by rintro rfl; rcases hp with hp | hp; exact hn hp; omega)).trans (h.block i hi hn)⟩

/-- all that waits is kept -/
def flushed (S : List (List Nat)) (W : List (Nat × List Nat)) : List (List Nat) := W.foldl (fun S x => putN S x.1 64 x.2) S
/-- how many bytes are kept -/
def cl (k : Int) : Nat := (min (max k 0) 64).toNat
theorem cl_le (k : Int) : cl k ≤ 64 := by unfold cl; omega
/-- of what waits the first bytes are kept -/
def crashed (S : List (List Nat)) (W : List (Nat × List Nat)) (K : List Int) : List (List Nat) := (W.zip K).foldl (fun S y => putN S y.1.1 (cl y.2) y.1.2) S

theorem fold_take {α β : Type} (f : β → α → β) (b : β) (l : List α) (i : Nat) (hi : i < l.length) : (l.take (i + 1)).foldl f b = f ((l.take i).foldl f b) l[i] := by
  rw [List.take_succ_eq_append_getElem hi, List.foldl_append]
  rfl

/-- a sector is stored into the row: as one operation of a drawn region -/
theorem step_store66 {ops : Array Oper} {o : Oper} {a : Act} {w : World} {K : Act → World → Prop} {Q : Exit → Act → World → Prop} {E : Prop} (hg : o.guard = none) (x y : Operand) (ho : o.op = .store 143 x y) {kg off : Nat} (hx : a.eval x = .pointer (some ⟨kg, off, none⟩)) {d : List Nat} (hd : d.length = 64) (hy : a.eval y = .agg (u8s d).toArray)
    {cur : Array Value} (hh : w.heap[kg]? = some (.cells cur 143 (0, 0))) (hfit : off + 64 ≤ cur.size)
    (hK : K (a.put o.dst undef) (w.setRow kg (cur.toList.take off ++ (u8s (d.take 64) ++ cur.toList.drop (off + 64))).toArray)) : if Region.wanted o (yielded ops a.tmps) = true then Oper.wp Try.prog o a w K Q else E := by
  have hw : Region.wanted o (yielded ops a.tmps) = true := by simp [Region.wanted, hg]
  rw [if_pos hw]
  have hst := run_storeCells_at Try.prog kg off 143 (u8s d) 0 cur w hh (by simp [hd]; omega) (u8s_one d)
  have hrun : (storeVar 143 ⟨kg, off, none⟩ (.agg (u8s d).toArray)).run Try.prog w = .ok () (w.setRow kg (cur.toList.take off ++ (u8s (d.take 64) ++ cur.toList.drop (off + 64))).toArray) := by
    have h66 := load66
    cases hq : Try.prog.info? 143 with
    | none => simp [hq] at h66
    | some i =>
      have hs : i.size = 64 := by simpa [hq] using h66
      rw [show d.take 64 = d from List.take_of_length_le (by omega)]
      simp only [Nat.add_zero, u8s_length, hd] at hst
      simp [storeVar, sizeOf, typeInfo, hq, Value.cells, hs, hd, hst]
  unfold Oper.wp execOp
  simp only [ho, hx, hy, Instr.storeAt, Instr.sureAddr, Sem.run_bind, Sem.run_pure, Result.andThen_ok, hrun]
  exact hK

/-- first bytes are copied into the row: as one operation of a drawn region -/
theorem step_copy66 {ops : Array Oper} {o : Oper} {a : Act} {w : World} {K : Act → World → Prop} {Q : Exit → Act → World → Prop} {E : Prop} (hg : o.guard = none) (x y : Operand) (ho : o.op = .call { callee := .builtin .copy, args := #[x, y], argTypes := #[23, 23] }) {kg off n dc sc : Nat} (hx : a.eval x = .slice (some ⟨kg, off, none⟩) n dc)
    {t so : Nat} {d : List Nat} (hd : d.length = 64) (hn : n ≤ 64) (hy : a.eval y = .slice (some ⟨t, so, none⟩) n sc) (hsrc : w.rangeAt t so (u8s d))
    {cur : Array Value} (hh : w.heap[kg]? = some (.cells cur 143 (0, 0))) (hfit : off + n ≤ cur.size)
    (hK : K (a.put o.dst (goInt n)) (w.setRow kg (cur.toList.take off ++ (u8s (d.take n) ++ cur.toList.drop (off + n))).toArray)) : if Region.wanted o (yielded ops a.tmps) = true then Oper.wp Try.prog o a w K Q else E := by
  have hw : Region.wanted o (yielded ops a.tmps) = true := by simp [Region.wanted, hg]
  rw [if_pos hw]
  obtain ⟨i0, hi, hz0, hz1, hz2⟩ := info_parts Try.info5
  have hlen : (u8s (d.take n)).length = n := by simp [hd]; omega
  have hrun := run_copy_row (P := Try.prog) w 23 23 o.type 5 kg off n dc ⟨t, so, none⟩ n sc cur 143 (u8s (d.take n)) Try.underlying23 (by rw [hi]; simp [hz1]) hh (by rw [hlen]; simp) (fun j v hj => by
    rw [Addr.add_mid]
    refine hsrc j v ?_
    have hjn : j < n := by have := (List.getElem?_eq_some_iff.1 hj).1; omega
    rw [u8s, List.map_take, List.getElem?_take_of_lt hjn] at hj
    exact hj) (by rw [hlen]; exact hfit) (u8s_one _)
  rw [hlen, List.append_assoc] at hrun
  unfold Oper.wp
  simp [execOp, ho, resolve, invoke, builtin, hx, hy, hrun, Result.andThen]
  exact hK
end
section
set_option linter.unusedVariables false
open Go.RowKit

/-- a row of numbers -/
def IntB (w : World) (v : Value) (K : List Int) : Prop := ((∃ a cap, v = .slice a 0 cap) ∧ K = []) ∨ ∃ b off cap, v = .slice (some ⟨b, off, none⟩) K.length cap ∧ K.length ≤ cap ∧ cap ≤ maxLen ∧ ∀ i (hi : i < K.length), w.cell? ⟨b, off + i, none⟩ = some (.int .i64 K[i])
theorem IntB.shape {w : World} {v : Value} {K : List Int} (h : IntB w v K) : ∃ a cap, v = .slice a K.length cap ∧ K.length ≤ 9223372036854775807 := by
  rcases h with ⟨⟨a, cap, rfl⟩, rfl⟩ | ⟨b, off, cap, rfl, h1, h2, _⟩
  · exact ⟨a, cap, rfl, by simp⟩
  · exact ⟨_, _, rfl, by simp only [maxLen] at h2; omega⟩

/-- the sectors while they are laid -/
structure Lay (S S' : List (List Nat)) : Prop where
  len : S'.length = S.length
  s64 : ∀ s ∈ S', s.length = 64
  s256 : ∀ s ∈ S', ∀ n ∈ s, n < 256
theorem Good.lay {S : List (List Nat)} {W : List (Nat × List Nat)} (h : Good S W) : Lay S S := ⟨rfl, h.s64, h.s256⟩
theorem Lay.put {S S' : List (List Nat)} (h : Lay S S') {x n : Nat} {d : List Nat} (hx : x < S.length) (hn : n ≤ 64) (hd : d.length = 64) (h256 : ∀ n ∈ d, n < 256) : Lay S (putN S' x n d) :=
  ⟨(putN_len _ _ _ _).trans h.len, putN_64 h.s64 hd (by rw [h.len]; exact hx) hn, putN_256 h.s256 h256 (by rw [h.len]; exact hx)⟩

theorem laid_fin {w wr w2 : World} {O : Nat → Prop} {p : Nat} {kv wv mv v : Value} {S S' : List (List Nat)} {W : List (Nat × List Nat)} {arm a' : Nat} {down d' : Bool} (h : Dk w O p kv wv mv S W arm down) (hl : Lay S S') (hrow : wr.ownsRow 0 143 64 kv S.length (secs S')) (hb : Beside (fun k => kv.ownBlock = some k) w wr)
    (hv2 : DkV w2 p kv (.slice none 0 0) (.map none) a' d') (hb2 : Beside (· = p) wr w2) : DkEnd w O p kv S' [] a' d' v (.returned v) w2 := by
  have hpr : DkV wr p kv wv mv arm down := h.row.beside hb (fun hk => ownsRow_ne h.kept h.row (by decide) p hk rfl)
  refine ⟨_, _, O, rfl, ⟨hv2, ?_, World.ownsRow_nil _ _ _ _, .inl ⟨rfl, rfl⟩, ⟨hl.s64, hl.s256, by simp, by simp, by simp, by rw [hl.len]; exact h.good.sl, by simp⟩, h.op, h.ok, by simp [Value.ownBlock], by simp⟩, ?_, fun k hk => .inl hk⟩
  · rw [hl.len]
    exact ownsRow_beside hrow hb2 (fun k hk => ownsRow_ne hrow hpr (by decide) k hk)
  · exact (hb.mono fun k _ hk => h.ok k hk).trans (hb2.mono fun k _ hk => hk ▸ h.op)

/-- a write that waits is loaded -/
theorem load_write {w : World} {ops : Array Oper} {rest : List Oper} {op : Oper} {a : Act} {Q : Exit → Act → World → Prop} (hgd : op.guard = none) (x : Operand) (ho : op.op = .load 145 x)
    (b o : Nat) (hx : a.eval x = .pointer (some ⟨b, o, none⟩)) (X : List Value) (hl : X.length = 65) (hc : w.rangeAt b o X)
    (h : wpList Try.prog ops Q rest (a.put op.dst (.agg X.toArray)) w) : wpList Try.prog ops Q (op :: rest) a w :=
  wpList_load_mid hgd 145 x ho b o hx X _ hc Try.underlying145 rfl (by rw [load69]; simp [hl]) h

theorem wait_at {w : World} {wv : Value} {W : List (Nat × List Nat)} (hrow : w.ownsRow 0 145 65 wv W.length (wcells W)) (h64 : ∀ x ∈ W, x.2.length = 64) {i : Nat} (hi : i < W.length) :
    ∃ wg wc, wv = .slice (some ⟨wg, 0, none⟩) W.length wc ∧ W.length ≤ wc ∧ wg < w.heap.size ∧ w.rangeAt wg (i * 65) (wcell W[i]) ∧ wc ≤ maxLen := by
  rcases hrow.2 with ⟨_, h0⟩ | ⟨kg, kc, cur, rfl, _, hh, hc, hm, hsz, ht⟩
  · omega
  · refine ⟨kg, kc, rfl, hc, lt_of_block hh, fun j v hj => ?_, hm⟩
    have hj64 : j < 65 := by have := (List.getElem?_eq_some_iff.1 hj).1; simpa [wcell, h64 _ (List.getElem_mem hi)] using this
    have h1 := wcells_at h64 hi hj64
    rw [cell_of_row _ _ _ _ _ _ hh]
    have h2 : (wcells W)[i * 65 + j]? = cur[i * 65 + j]? := by
      rw [← ht, List.getElem?_take_of_lt (by omega)]
      simp
    rw [← h2, h1, hj]

theorem setRow_cell {w : World} {g : Nat} {p : Addr} (h : p.block ≠ g) (cs : Array Value) : (w.setRow g cs).cell? p = w.cell? p := World.cell?_of_block (setRow_other w g p.block cs h)
end
section
set_option linter.unusedVariables false
open Go.RowKit

theorem flush_down {w : World} {p : Nat} {kv wv mv : Value} {arm : Int} (h : DkV w p kv wv mv arm true) : Calls Try.prog 61 #[.pointer (some ⟨p, 0, none⟩)] w fun e w' => e = .returned (.int .i64 3) ∧ w = w' := by
  go_enter Try.func61, Try.ntmps61
  go_wp2_with fail
  refine (ready_ok h).mono ?_
  rintro e w1 ⟨rfl, rfl⟩
  go_wp2_with fail
  go_ret
  exact ⟨rfl, rfl⟩

/-- one that is hit keeps nothing -/
theorem flush_hit {w : World} {O : Nat → Prop} {p : Nat} {kv wv mv : Value} {S : List (List Nat)} {W : List (Nat × List Nat)} {arm a2 : Nat} (h : Dk w O p kv wv mv S W arm false) (harm : arm ≤ 9223372036854775807) (hh : hitOf arm = (a2, true)) :
    Calls Try.prog 61 #[.pointer (some ⟨p, 0, none⟩)] w fun e w' => DkEnd w O p kv S W a2 true (.int .i64 3) e w' := by
  have hk := hit_ok h.row harm
  rw [hh] at hk
  simp only at hk
  have HK := Lib.hid hk
  have H := Lib.hid h
  clear hk h hh
  go_enter Try.func61, Try.ntmps61
  go_wp2_with fail
  refine (ready_ok H.out.row).mono ?_
  rintro e w1 ⟨rfl, rfl⟩
  go_wp2_with fail
  refine HK.out.mono ?_
  rintro e w1 ⟨rfl, hv, hb⟩
  have HV := Lib.hid hv
  have HB := Lib.hid hb
  clear hv hb
  go_wp2_with fail
  go_ret
  exact ⟨_, _, O, rfl, H.out.turned HV.out HB.out, HB.out.ofOne H.out.op, fun k hk => .inl hk⟩

set_option maxRecDepth 100000 in
set_option maxHeartbeats 1000000 in
theorem flush_ok {w : World} {O : Nat → Prop} {p : Nat} {kv wv mv : Value} {S : List (List Nat)} {W : List (Nat × List Nat)} {arm a2 : Nat} (h0 : Dk w O p kv wv mv S W arm false) (harm : arm ≤ 9223372036854775807) (hh : hitOf arm = (a2, false)) :
    Calls Try.prog 61 #[.pointer (some ⟨p, 0, none⟩)] w fun e w' => DkEnd w O p kv (flushed S W) [] a2 false (.int .i64 0) e w' := by
  have hk := hit_ok h0.row harm
  rw [hh] at hk
  simp only at hk
  have HKT := Lib.hid hk
  have H0 := Lib.hid h0
  clear hk h0 hh
  go_enter Try.func61, Try.ntmps61
  go_wp2_with fail
  refine (ready_ok H0.out.row).mono ?_
  rintro e w1 ⟨rfl, rfl⟩
  go_wp2_with fail
  refine HKT.out.mono ?_
  rintro e wh ⟨rfl, hvh, hbh⟩
  have h : Dk wh O p kv wv mv S W a2 false := H0.out.turned hvh hbh
  have HBH : Hid (Beside O w wh) := Lib.hid (hbh.ofOne H0.out.op)
  have HFIN : Hid (∀ w', DkEnd wh O p kv (flushed S W) [] a2 false (.int .i64 0) (.returned (.int .i64 0)) w' → DkEnd w O p kv (flushed S W) [] a2 false (.int .i64 0) (.returned (.int .i64 0)) w') := Lib.hid fun w' ⟨wv', mv', O', e, hd, hb, ho⟩ => ⟨wv', mv', O', e, hd, (hbh.ofOne H0.out.op).trans hb, fun k hk => (ho k hk).imp id (fun ⟨h1, h2⟩ => ⟨Nat.le_trans hbh.size h1, h2⟩)⟩
  clear hvh hbh HKT H0 HBH
  have c0 := h.row.cell0
  have c1 := h.row.cell1
  have hps : p < wh.heap.size := lt_of_block h.row
  have hwl := h.good.wl
  obtain ⟨wa, wc, rfl⟩ : ∃ wa wc, wv = .slice wa W.length wc := by
    rcases h.waits.2 with ⟨e, h0⟩ | ⟨g, cap, cur, e, _⟩
    · exact ⟨_, _, by rw [e, h0]⟩
    · exact ⟨_, _, e⟩
  have H := Lib.hid h
  clear h
  go_wp2_with fail
  go_loopw [18] (fun i wr => ∃ k : Nat, k ≤ W.length ∧ i = .int .i64 (k : Int) ∧ Lay S ((W.take k).foldl (fun S x => putN S x.1 64 x.2) S) ∧ wr.ownsRow 0 143 64 kv S.length (secs ((W.take k).foldl (fun S x => putN S x.1 64 x.2) S)) ∧ Beside (fun k => kv.ownBlock = some k) wh wr) (fun i _ => (W.length - intOf i).toNat)
  case atStart => exact ⟨0, Nat.zero_le _, rfl, by simpa using H.out.good.lay, by simpa using H.out.kept, Beside.refl _ _⟩
  case round =>
    obtain ⟨k, hkW, rfl, hlay, hrow, hbes⟩ := hrel
    have HV : Hid (DkV wr p kv (.slice wa W.length wc) mv a2 false) := Lib.hid (H.out.row.beside hbes (fun hk => ownsRow_ne H.out.kept H.out.row (by decide) p hk rfl))
    have HROW := Lib.hid hrow
    have HLAY := Lib.hid hlay
    have HB := Lib.hid hbes
    clear hrow hlay hbes
    by_cases hk : k < W.length
    · have h64 := H.out.good.w64 _ (List.getElem_mem hk)
      have hwrow : wr.ownsRow 0 145 65 (.slice wa W.length wc) W.length (wcells W) := ownsRow_beside H.out.waits HB.out (fun k hk hk2 => by
        rcases H.out.kept.2 with ⟨e, _⟩ | ⟨g, cap, cur, e, _, hh, _⟩
        · subst e; cases hk2
        · subst e; simp [Value.ownBlock] at hk2; subst hk2; exact ownsRow_ne H.out.waits hh (by decide) _ hk rfl)
      obtain ⟨wg, wc', ewv, hwc, hwg, hrng, hwm⟩ := wait_at hwrow H.out.good.w64 hk
      obtain ⟨rfl, rfl⟩ : wa = some ⟨wg, 0, none⟩ ∧ wc = wc' := by simpa using ewv
      have HRNG := Lib.hid hrng
      have hX : (wcell W[k]).length = 65 := by simp [wcell, h64]
      have hki : (k : Int) < (W.length : Int) := by omega
      have hkc : k < wc := by omega
      have HVA : Hid (DkV (wr.alloc (.cells (wcell W[k]).toArray 145)) p kv (.slice (some ⟨wg, 0, none⟩) W.length wc) mv a2 false) := Lib.hid (HV.out.beside (own := fun _ => False) ((Beside.refl _ _).alloc _) (fun h => h))
      clear hwrow hrng ewv h64 c0 c1
      have HST : Hid ((W.take (k + 1)).foldl (fun S x => putN S x.1 64 x.2) S = putN ((W.take k).foldl (fun S x => putN S x.1 64 x.2) S) (W[k]).1 64 (W[k]).2) := Lib.hid (fold_take _ _ _ k hk)
      have hn : 64 ≤ 64 := Nat.le_refl _
      have hx := H.out.good.wat _ (List.getElem_mem hk)
      have hd64 := H.out.good.w64 _ (List.getElem_mem hk)
      have HD256 := Lib.hid (H.out.good.w256 _ (List.getElem_mem hk))
      have hrowA : (wr.alloc (.cells (wcell W[k]).toArray 145)).ownsRow 0 143 64 kv S.length (secs ((W.take k).foldl (fun S x => putN S x.1 64 x.2) S)) := ownsRow_beside (own := fun _ => False) HROW.out ((Beside.refl _ _).alloc _) (fun _ _ h => h)
      rw [← HLAY.out.len] at hrowA
      obtain ⟨kg, kc, cur, ekv, hkc2, hkm, hcur, hfit, hput⟩ := put_row hrowA HLAY.out.s64 (x := (W[k]).1) (by rw [HLAY.out.len]; exact hx) hn hd64
      rw [HLAY.out.len] at hkc2 hput ekv
      subst ekv
      have hxi : (((W[k]).1 : Nat) : Int) < (S.length : Int) := by omega
      have hxc : (W[k]).1 < kc := by omega
      have c0 := HVA.out.cell0
      have ct : (wr.alloc (.cells (wcell W[k]).toArray 145)).cell? ⟨wr.heap.size, 0, none⟩ = some (.int .i64 ((W[k]).1 : Nat)) := by
        rw [cell_of_row _ _ 0 _ 145 (0, 0) (heap_alloc_new wr _)]
        simp [wcell]
      have hsrc : (wr.alloc (.cells (wcell W[k]).toArray 145)).rangeAt wr.heap.size 1 (u8s (W[k]).2) := fun j v hj => by
        rw [cell_of_row _ _ (1 + j) _ 145 (0, 0) (heap_alloc_new wr _)]
        simpa [wcell, Nat.add_comm 1 j] using hj
      have HSRC := Lib.hid hsrc
      have hpk : p ≠ kg := fun e => ne_of_type HVA.out hcur (by decide) e.symm
      have htk : wr.heap.size ≠ kg := fun e => ne_of_type (heap_alloc_new wr (.cells (wcell W[k]).toArray 145)) hcur (by decide) e.symm
      have HP := Lib.hid hput
      have HC := Lib.hid hcur
      have HBA := Lib.hid (HB.out.alloc (.cells (wcell W[k]).toArray 145))
      clear hput hcur hrowA HROW hsrc
      go_wp2_with (first | (refine load_write rfl (.tmp 20) rfl wg (k * 65) rfl (wcell W[k]) hX HRNG.out ?_) | (refine alloc_write rfl rfl ?_) | (refine store_write rfl (.tmp 5) (.tmp 21) rfl rfl rfl (wrow_len _ _ (by simp [zeros])) hX (wrow_one _ _) ?_))
      generalize wr.alloc (.cells (wcell W[k]).toArray 145) = wA at *
      generalize wr.heap.size = t at *
      refine wp_region_held_drew (S := fun w' => (w'.cell? ⟨p, 0, none⟩ = some (.slice (some ⟨kg, 0, none⟩) S.length kc) ∧ w'.cell? ⟨t, 0, none⟩ = some (.int .i64 ((W[k]).1 : Nat))) ∧ w'.rangeAt t 1 (u8s (W[k]).2)) (by kernel_rfl) ⟨⟨c0, ct⟩, HSRC.out⟩ (fun hHeld => ?_)
      refine wpAnyH_take (i := 0) (oi := ⟨_, _, _, _, _, _⟩) (v := ?_) rfl (by kernel_rfl) (by kernel_rfl) (by kernel_rfl) (fun _ _ _ h => h) (Or.inl ⟨by rfl, ?_⟩) (by assumption) ?_
      rotate_left
      · intro w hSw; (try dsimp only at hSw); go_simp <;> with_reducible rfl
      simp only [Act.put, List.setIfInBounds_toArray, List.set_cons_zero, List.set_cons_succ]
      refine wpAnyH_take (i := 1) (oi := ⟨_, _, _, _, _, _⟩) (v := ?_) rfl (by kernel_rfl) (by kernel_rfl) (by kernel_rfl) (fun _ _ _ h => h) (Or.inl ⟨by rfl, ?_⟩) (by assumption) ?_
      rotate_left
      · intro w hSw; (try dsimp only at hSw); go_simp <;> with_reducible rfl
      simp only [Act.put, List.setIfInBounds_toArray, List.set_cons_zero, List.set_cons_succ]
      refine wpAnyH_take (i := 2) (oi := ⟨_, _, _, _, _, _⟩) (v := ?_) rfl (by kernel_rfl) (by kernel_rfl) (by kernel_rfl) (fun _ _ _ h => h) (Or.inl ⟨by rfl, ?_⟩) (by assumption) ?_
      rotate_left
      · intro w hSw; (try dsimp only at hSw); go_simp <;> with_reducible rfl
      simp only [Act.put, List.setIfInBounds_toArray, List.set_cons_zero, List.set_cons_succ]
      refine wpAnyH_take (i := 3) (oi := ⟨_, _, _, _, _, _⟩) (v := ?_) rfl (by kernel_rfl) (by kernel_rfl) (by kernel_rfl) (fun _ _ _ h => h) (Or.inl ⟨by rfl, ?_⟩) (by assumption) ?_
      rotate_left
      · intro w hSw; (try dsimp only at hSw); go_simp <;> with_reducible rfl
      simp only [Act.put, List.setIfInBounds_toArray, List.set_cons_zero, List.set_cons_succ]
      refine wpAnyH_take (i := 4) (oi := ⟨_, _, _, _, _, _⟩) (v := ?_) rfl (by kernel_rfl) (by kernel_rfl) (by kernel_rfl) (fun _ _ _ h => h) (Or.inl ⟨by rfl, ?_⟩) (by assumption) ?_
      rotate_left
      · intro w hSw; (try dsimp only at hSw); go_simp <;> with_reducible rfl
      simp only [Act.put, List.setIfInBounds_toArray, List.set_cons_zero, List.set_cons_succ]
      refine wpAnyH_take (i := 5) (oi := ⟨_, _, _, _, _, _⟩) (v := ?_) rfl (by kernel_rfl) (by kernel_rfl) (by kernel_rfl) (fun _ _ _ h => h) (Or.inl ⟨by rfl, ?_⟩) (by assumption) ?_
      rotate_left
      · intro w hSw; (try dsimp only at hSw); go_simp <;> with_reducible rfl
      simp only [Act.put, List.setIfInBounds_toArray, List.set_cons_zero, List.set_cons_succ]
      refine wpAnyH_take (i := 6) (oi := ⟨_, _, _, _, _, _⟩) (v := ?_) rfl (by kernel_rfl) (by kernel_rfl) (by kernel_rfl) (fun _ _ _ h => h) (Or.inl ⟨by rfl, ?_⟩) (by assumption) ?_
      rotate_left
      · intro w hSw; (try dsimp only at hSw); go_simp <;> with_reducible rfl
      simp only [Act.put, List.setIfInBounds_toArray, List.set_cons_zero, List.set_cons_succ]
      refine wpAnyH_take (i := 7) (v := .agg (u8s (W[k]).2).toArray) rfl (by kernel_rfl) (by kernel_rfl) (by kernel_rfl) (fun _ _ _ h => h) (yieldsIf_load_mid (by rfl) 143 (.tmp 28) rfl t 1 rfl (u8s (W[k]).2) _ (fun w h => h.2) Try.underlying143 rfl (by rw [load66]; simp [hd64])) (by assumption) ?_
      simp only [Act.put, List.setIfInBounds_toArray]
      refine wpAnyH_take (i := 8) (oi := ⟨_, _, _, _, _, _⟩) (v := ?_) rfl (by kernel_rfl) (by kernel_rfl) (by kernel_rfl) (fun _ _ _ h => h) (Or.inl ⟨by rfl, ?_⟩) (by assumption) ?_
      rotate_left
      · intro w hSw; (try dsimp only at hSw); go_simp <;> with_reducible rfl
      simp only [Act.put]
      refine wpAnyH_ready (rs := [9]) (by kernel_rfl) (by simp) ?_
      refine AllReadyH.cons (o := ⟨_, _, _, _, _, _⟩) rfl (fun K hK => ?_) AllReadyH.nil
      refine step_store66 rfl (.tmp 30) (.tmp 29) rfl rfl hd64 rfl (cur := cur) HC.out hfit (hK.out _ _ ?_ (fun hHeld2 => ?_))
      · exact ⟨⟨(setRow_cell (w := wA.drew) hpk _).trans c0, (setRow_cell (w := wA.drew) htk _).trans ct⟩, fun j v hj => (setRow_cell (w := wA.drew) htk _).trans (HSRC.out j v hj)⟩
      clear hK K
      refine wpAnyH_done (by kernel_rfl) ?_ _
      go_wp2_with fail
      go_roundw
      case rel =>
        refine ⟨k + 1, by omega, by go_num, ?_, ?_, ?_⟩
        · rw [HST.out]
          exact HLAY.out.put hx hn hd64 HD256.out
        · rw [HST.out]
          exact HP.out
        · exact (HBA.out.drew).setRow (.inl (by simp [Value.ownBlock])) _
      case measure => simp [intOf]; omega
    · obtain rfl : k = W.length := by omega
      have HLX : Hid (Lay S (flushed S W)) := Lib.hid (by have := HLAY.out; rwa [List.take_of_length_le (Nat.le_refl _)] at this)
      have HRX : Hid (wr.ownsRow 0 143 64 kv S.length (secs (flushed S W))) := Lib.hid (by have := HROW.out; rwa [List.take_of_length_le (Nat.le_refl _)] at this)
      go_wp2_with fail
      refine (forget_ok HV.out).mono ?_
      rintro e w2 ⟨rfl, hv2, hb2⟩
      have HV2 := Lib.hid hv2
      have HB2 := Lib.hid hb2
      clear hv2 hb2
      go_wp2_with fail
      go_ret
      exact HFIN.out _ (laid_fin H.out HLX.out HRX.out HB.out HV2.out HB2.out)
end
end Go.Proofs.Ytmnbkhgogogeiaa
