/-
  Several texts of one proof, each in a section of its own: Read, Sector.
-/
import Derived.Test.YtmnbkhgogogeiaaRg3
import Derived.Maps.OwnOps
namespace Go.Proofs.Ytmnbkhgogogeiaa
section
set_option linter.unusedVariables false
open Go.RowKit

set_option maxHeartbeats 400000 in
theorem clone_any (v : Value) (l : List Nat) (w : World) (hr : RowB w v l) (hs : l.length ≤ 140737488351232) : Calls Try.prog 98 #[v] w fun e w' => ∃ o, e = .returned o ∧ OwnB w' w.heap.size o l ∧ Below w.heap.size w w' := by
  obtain ⟨i0, hi, hz0, hz1, hz2⟩ := info_parts Try.info5
  obtain ⟨a, len, cap, rfl, hl, hc, hm, hw, hn, hcell⟩ := hr
  cases a with
  | none =>
    obtain ⟨rfl, rfl⟩ := hn rfl
    obtain rfl : l = [] := List.eq_nil_of_length_eq_zero hl
    have he := Lib.run_eql_slice_nil (P := Try.prog)
    go_enter Try.func98, Try.ntmps98
    go_wp2_with fail
    go_ret
    exact ⟨_, rfl, World.ownsRow_nil _ _ _ _, Below.refl _ _⟩
  | some x =>
    have he := fun (w : World) => Lib.run_eql_slice_nil (P := Try.prog) w 23 5 (some x) len cap 0 0 Try.underlying23
    have hown0 := World.ownsRow_lit (base := w.heap.size) (e := 5) (size := 1) w #[] 0 (Nat.le_refl _) (by decide) rfl
    have hnews : ∀ j u, (u8s l)[j]? = some u → (w.alloc (.cells #[] 5)).cell? (x.add j) = some u := by
      intro j u hj
      have hjl : j < l.length := by have := (List.getElem?_eq_some_iff.1 hj).1; simpa using this
      rw [u8s_get l j hjl] at hj
      cases hj
      have hx := hcell x rfl j hjl
      rw [Below.cell ((Below.refl w.heap.size w).alloc (Nat.le_refl _) _) (World.block_lt_of_cell? w _ hx)]
      exact hx
    have one : ∀ u ∈ u8s l, u.oneCell' = true := by
      intro u hu
      obtain ⟨_, _, rfl⟩ := List.mem_map.1 hu
      rfl
    have Hcell := Lib.hid hcell
    have Hl := Lib.hid hl
    have Hnews := Lib.hid hnews
    have hsl : len ≤ 140737488351232 := by omega
    clear hcell hl hnews hs
    go_enter Try.func98, Try.ntmps98
    go_wp2_with (at_builtin; go_loud (refine wpList_append_own _ rfl (.tmp 5) (.tmp 6) 23 rfl (w.heap.size) 5 i0 (.int .u8 0) 1 1 Try.underlying23 hi hz0 hz1 hz2 rfl (by decide) _ _ _ rfl hown0 x len cap (u8s l) rfl (by rw [u8s_length, Hl.out]; simp) Hnews.out one (by simp [maxLen]; omega) (by simp; omega) (by simp) ?_))
    intro o w1 ho hgr _
    go_wp2_with fail
    go_ret
    refine ⟨_, rfl, ?_, ?_⟩
    · unfold OwnB
      rw [Hl.out]
      simpa using ho
    · exact ((Below.refl _ _).alloc (Nat.le_refl _) _).grown hgr (by simp) (by intro k hk; simp [Value.ownBlock] at hk; omega)

theorem read_down {w : World} {p : Nat} {kv wv mv : Value} {arm : Int} (h : DkV w p kv wv mv arm true) (a : Int) : Calls Try.prog 75 #[.pointer (some ⟨p, 0, none⟩), .int .i64 a] w fun e w' => e = .returned (.tuple #[.slice none 0 0, .int .i64 3]) ∧ w = w' := by
  go_enter Try.func75, Try.ntmps75
  go_wp2_with fail
  refine (ready_ok h).mono ?_
  rintro e w1 ⟨rfl, rfl⟩
  go_wp2_with fail
  exact bodyPost_ret (v := .tuple #[.slice none 0 0, .int .i64 3]) (by simp [results, Try.results75, go_sem]) rfl ⟨rfl, rfl⟩

theorem read_arg {w : World} {p : Nat} {ko : Option Addr} {n kc : Nat} {wv mv : Value} {arm : Int} (h : DkV w p (.slice ko n kc) wv mv arm false) (hn : n ≤ 65536) (a : Int) (ha : hasB n a = false) : Calls Try.prog 75 #[.pointer (some ⟨p, 0, none⟩), .int .i64 a] w fun e w' => e = .returned (.tuple #[.slice none 0 0, .int .i64 1]) ∧ w = w' := by
  have hh := has_ok h a hn
  rw [ha] at hh
  have HH := Lib.hid hh
  clear hh ha
  go_enter Try.func75, Try.ntmps75
  go_wp2_with fail
  refine (ready_ok h).mono ?_
  rintro e w1 ⟨rfl, rfl⟩
  go_wp2_with fail
  refine HH.out.mono ?_
  rintro e w1 ⟨rfl, rfl⟩
  go_wp2_with fail
  exact bodyPost_ret (v := .tuple #[.slice none 0 0, .int .i64 1]) (by simp [results, Try.results75, go_sem]) rfl ⟨rfl, rfl⟩

/-- the cells of the i-th sector -/
theorem secs_at {S : List (List Nat)} (h : ∀ s ∈ S, s.length = 64) {i j : Nat} (hi : i < S.length) (hj : j < 64) : (secs S)[i * 64 + j]? = (u8s S[i])[j]? := by
  induction S generalizing i with
  | nil => simp at hi
  | cons s r ih =>
    have hs := h s (by simp)
    cases i with
    | zero =>
      simp only [secs, List.flatMap_cons, Nat.zero_mul, Nat.zero_add, List.getElem_cons_zero]
      rw [List.getElem?_append_left (by simp [hs]; omega)]
    | succ i =>
      have := ih (fun x hx => h x (by simp [hx])) (i := i) (by simpa using hi)
      simp only [secs, List.flatMap_cons, List.getElem_cons_succ] at this ⊢
      rw [List.getElem?_append_right (by simp [hs]; omega)]
      rw [← this]
      congr 1
      simp [hs]
      omega

theorem kept_at {w : World} {O : Nat → Prop} {p : Nat} {kv wv mv : Value} {S : List (List Nat)} {W : List (Nat × List Nat)} {arm : Nat} {down : Bool} (h : Dk w O p kv wv mv S W arm down) {i : Nat} (hi : i < S.length) :
    ∃ kg kc, kv = .slice (some ⟨kg, 0, none⟩) S.length kc ∧ S.length ≤ kc ∧ O kg ∧ w.rangeAt kg (i * 64) (u8s S[i]) ∧ kc ≤ maxLen := by
  rcases h.kept.2 with ⟨_, h0⟩ | ⟨kg, kc, cur, rfl, _, hh, hc, hm, hsz, ht⟩
  · omega
  · refine ⟨kg, kc, rfl, hc, h.ok kg rfl, fun j v hj => ?_, hm⟩
    have hj64 : j < 64 := by have := (List.getElem?_eq_some_iff.1 hj).1; simpa [h.good.s64 _ (List.getElem_mem hi)] using this
    have h1 := secs_at h.good.s64 hi hj64
    rw [cell_of_row _ _ _ _ _ _ hh]
    have h2 : (secs S)[i * 64 + j]? = cur[i * 64 + j]? := by
      rw [← ht, List.getElem?_take_of_lt (by omega)]
      simp
    rw [← h2, h1, hj]

theorem load66 : (Try.prog.info? 143).map (·.size) = some 64 := by kernel_rfl

/-- a sector is loaded -/
theorem load_sec {w : World} {ops : Array Oper} {rest : List Oper} {op : Oper} {a : Act} {Q : Exit → Act → World → Prop} (hgd : op.guard = none) (x : Operand) (ho : op.op = .load 143 x)
    (b o : Nat) (hx : a.eval x = .pointer (some ⟨b, o, none⟩)) (l : List Nat) (hl : l.length = 64) (hc : w.rangeAt b o (u8s l))
    (h : wpList Try.prog ops Q rest (a.put op.dst (.agg (u8s l).toArray)) w) : wpList Try.prog ops Q (op :: rest) a w :=
  wpList_load_mid hgd 143 x ho b o hx (u8s l) _ hc Try.underlying143 rfl (by rw [load66]; simp [hl]) h

theorem u8s_one (l : List Nat) : ∀ v ∈ u8s l, v.oneCell' = true := by
  intro u hu
  obtain ⟨_, _, rfl⟩ := List.mem_map.1 hu
  rfl

/-- a sector is stored into a new block -/
theorem store_sec {w : World} {ops : Array Oper} {rest : List Oper} {op : Oper} {a : Act} {Q : Exit → Act → World → Prop} (hgd : op.guard = none) (x y : Operand) (ho : op.op = .store 143 x y) {Z : Array Value}
    (hx : a.eval x = .pointer (some ⟨w.heap.size, 0, none⟩)) (l : List Nat) (hl : l.length = 64) (hy : a.eval y = .agg (u8s l).toArray) (hZ : Z.size = 64)
    (h : wpList Try.prog ops Q rest (a.put op.dst undef) (w.alloc (.cells (u8s l).toArray 143))) : wpList Try.prog ops Q (op :: rest) a (w.alloc (.cells Z 143)) := by
  refine wpList_store_row hgd 143 x y ho w.heap.size _ hx hy 143 Z (heap_alloc_new w _) (by rw [load66]; simp [hl]) (by simp [hl, hZ]) (all_oneCell_toArray (u8s_one l)) ?_
  rw [World.setRow_alloc_new]
  exact h

/-- a lookup whose run is known -/
theorem at_look {w : World} {ops : Array Oper} {rest : List Oper} {op : Oper} {a : Act} {Q : Exit → Act → World → Prop} (hgd : op.guard = none) (m x : Operand) (ho : op.op = .lookup 60 m x true) (mv kv v : Value) (hm : a.eval m = mv) (hk : a.eval x = kv)
    (hrun : (Instr.lookup 60 mv kv true).run Try.prog w = .ok v w) (h : wpList Try.prog ops Q rest (a.put op.dst v) w) : wpList Try.prog ops Q (op :: rest) a w := by
  refine wpList_plain hgd fun K hK => ?_
  unfold Oper.wp
  simp [execOp, ho, hm, hk, hrun, Result.andThen]
  exact hK _ _ h

theorem row64 (w : World) (l : List Nat) (hl : l.length = 64) (h256 : ∀ n ∈ l, n < 256) : RowB (w.alloc (.cells (u8s l).toArray 143)) (.slice (some ⟨w.heap.size, 0, none⟩) 64 64) l := by
  refine ⟨_, _, _, rfl, hl, Nat.le_refl _, by decide, h256, by simp, fun x hx i hi => ?_⟩
  obtain rfl := Option.some.inj hx
  rw [Addr.add_lit, Nat.zero_add, cell_of_row _ _ i _ 143 (0, 0) (heap_alloc_new w _)]
  simp [u8s, hi]

theorem LastM.none_ {w : World} {mv : Value} {W : List (Nat × List Nat)} (h : LastM w mv W) {a : Nat} (hl : lastIdx W a = none) : (Instr.lookup 60 mv (.int .i64 (a : Int)) true).run Try.prog w = .ok (.tuple #[.int .i64 0, .bool false]) w := by
  rcases h with ⟨rfl, _⟩ | ⟨m, L, c, rfl, hm, hg⟩
  · exact run_look_nil _ _
  · have := run_look m c L (a : Int) w hm
    rw [hg a, hl] at this
    simpa using this
theorem LastM.some_ {w : World} {mv : Value} {W : List (Nat × List Nat)} (h : LastM w mv W) {a i : Nat} (hl : lastIdx W a = some i) : (Instr.lookup 60 mv (.int .i64 (a : Int)) true).run Try.prog w = .ok (.tuple #[.int .i64 (i : Int), .bool true]) w := by
  rcases h with ⟨rfl, rfl⟩ | ⟨m, L, c, rfl, hm, hg⟩
  · simp [lastIdx_nil] at hl
  · have := run_look m c L (a : Int) w hm
    rw [hg a, hl] at this
    simpa using this

set_option maxRecDepth 100000 in
set_option maxHeartbeats 1000000 in
theorem read_kept {w : World} {O : Nat → Prop} {p : Nat} {kv wv mv : Value} {S : List (List Nat)} {W : List (Nat × List Nat)} {arm : Nat} (h : Dk w O p kv wv mv S W arm false) (a : Nat) (ha : a < S.length) (hl : lastIdx W a = none) :
    Calls Try.prog 75 #[.pointer (some ⟨p, 0, none⟩), .int .i64 (a : Int)] w fun e w' => ∃ o, e = .returned (.tuple #[o, .int .i64 0]) ∧ OwnB w' w.heap.size o S[a] ∧ Below w.heap.size w w' := by
  obtain ⟨kg, kc, rfl, hc, hO, hr, hm⟩ := kept_at h ha
  have hsl := h.good.sl
  have hh := has_ok h.row (a : Int) hsl
  rw [show hasB S.length (a : Int) = true from by simp [hasB, ha]] at hh
  have c0 := h.row.cell0
  have c2 := h.row.cell2
  have hi0 : (a : Int) < (S.length : Int) := by omega
  have hac : a < kc := by omega
  have h64 := h.good.s64 _ (List.getElem_mem ha)
  obtain ⟨mo, rfl⟩ : ∃ mo, mv = .map mo := by rcases h.last with ⟨e, _⟩ | ⟨m, _, _, e, _⟩; exact ⟨_, e⟩; exact ⟨_, e⟩
  have hps : p < w.heap.size := lt_of_block h.row
  have HH := Lib.hid hh
  have H := Lib.hid h
  have HR := Lib.hid hr
  have H64 := Lib.hid h64
  clear hh hr h64
  go_enter Try.func75, Try.ntmps75
  go_wp2_with fail
  refine (ready_ok H.out.row).mono ?_
  rintro e w1 ⟨rfl, rfl⟩
  go_wp2_with fail
  refine HH.out.mono ?_
  rintro e w1 ⟨rfl, rfl⟩
  clear h
  have HLK := Lib.hid (LastM.none_ (H.out.last.beside (own := fun _ => False) ((Beside.refl _ _).alloc (.cells (u8s S[a]).toArray 143)) (fun _ _ h => h)) hl)
  have H256 := Lib.hid (H.out.good.s256 _ (List.getElem_mem ha))
  go_wp2_with (first | (refine load_sec rfl (.tmp 24) rfl kg (a * 64) rfl S[a] H64.out HR.out ?_) | (refine store_sec rfl (.tmp 7) (.tmp 25) rfl rfl S[a] H64.out rfl (by rfl) ?_) | (at_lookup; refine at_look rfl (.tmp 30) (.tmp 31) rfl _ _ _ rfl rfl HLK.out ?_))
  refine (clone_any _ S[a] _ (row64 w S[a] H64.out H256.out) (by rw [H64.out]; decide)).mono ?_
  rintro e w2 ⟨o, rfl, ho, hb⟩
  obtain ⟨oa, oc, rfl⟩ := ho.shape
  have HO := Lib.hid ho
  have HB := Lib.hid hb
  clear ho hb
  go_wp2_with fail
  refine bodyPost_ret (v := .tuple #[.slice oa S[a].length oc, .int .i64 0]) (by simp [results, Try.results75, go_sem]) rfl ⟨_, rfl, ?_, ?_⟩
  · exact ⟨HO.out.1, by rcases HO.out.2 with h | ⟨g, cap, cur, e, hg, r⟩; exact .inl h; exact .inr ⟨g, cap, cur, e, by simp at hg; omega, r⟩⟩
  · exact ((Below.refl _ _).alloc (Nat.le_refl _) _).trans (HB.out.mono (by simp))

theorem wcell_len {W : List (Nat × List Nat)} (h : ∀ x ∈ W, x.2.length = 64) : ∀ x ∈ W, (wcell x).length = 65 := fun x hx => by simp [wcell, h x hx]
/-- the cells of the i-th write -/
theorem wcells_at {W : List (Nat × List Nat)} (h : ∀ x ∈ W, x.2.length = 64) {i j : Nat} (hi : i < W.length) (hj : j < 65) : (wcells W)[i * 65 + j]? = (wcell W[i])[j]? := by
  induction W generalizing i with
  | nil => simp at hi
  | cons s r ih =>
    have hs := wcell_len h s (by simp)
    cases i with
    | zero =>
      simp only [wcells, List.flatMap_cons, Nat.zero_mul, Nat.zero_add, List.getElem_cons_zero]
      rw [List.getElem?_append_left (by omega)]
    | succ i =>
      have := ih (fun x hx => h x (by simp [hx])) (i := i) (by simpa using hi)
      simp only [wcells, List.flatMap_cons, List.getElem_cons_succ] at this ⊢
      rw [List.getElem?_append_right (by omega)]
      rw [← this]
      congr 1
      omega
theorem wcells_length {W : List (Nat × List Nat)} (h : ∀ x ∈ W, x.2.length = 64) : (wcells W).length = W.length * 65 := by
  induction W with
  | nil => simp [wcells]
  | cons s r ih =>
    have hs := wcell_len h s (by simp)
    have := ih (fun x hx => h x (by simp [hx]))
    simp only [wcells, List.flatMap_cons, List.length_append, hs, List.length_cons] at this ⊢
    omega

theorem waits_at {w : World} {O : Nat → Prop} {p : Nat} {kv wv mv : Value} {S : List (List Nat)} {W : List (Nat × List Nat)} {arm : Nat} {down : Bool} (h : Dk w O p kv wv mv S W arm down) {i : Nat} (hi : i < W.length) :
    ∃ wg wc, wv = .slice (some ⟨wg, 0, none⟩) W.length wc ∧ W.length ≤ wc ∧ O wg ∧ wg < w.heap.size ∧ w.rangeAt wg (i * 65) (wcell W[i]) ∧ wc ≤ maxLen := by
  rcases h.waits.2 with ⟨_, h0⟩ | ⟨kg, kc, cur, rfl, _, hh, hc, hm, hsz, ht⟩
  · omega
  · refine ⟨kg, kc, rfl, hc, h.ow kg rfl, lt_of_block hh, fun j v hj => ?_, hm⟩
    have hj64 : j < 65 := by have := (List.getElem?_eq_some_iff.1 hj).1; simpa [wcell, h.good.w64 _ (List.getElem_mem hi)] using this
    have h1 := wcells_at h.good.w64 hi hj64
    rw [cell_of_row _ _ _ _ _ _ hh]
    have h2 : (wcells W)[i * 65 + j]? = cur[i * 65 + j]? := by
      rw [← ht, List.getElem?_take_of_lt (by omega)]
      simp
    rw [← h2, h1, hj]
theorem rangeAt_tail {w : World} {b o : Nat} {v : Value} {cs : List Value} (h : w.rangeAt b o (v :: cs)) : w.rangeAt b (o + 1) cs := fun j u hj => by
  have := h (j + 1) u (by simpa using hj)
  rwa [show o + (j + 1) = o + 1 + j from by omega] at this
theorem rangeAt_alloc {w : World} {b o : Nat} {cs : List Value} (h : w.rangeAt b o cs) (hb : b < w.heap.size) (ob : Obj) : (w.alloc ob).rangeAt b o cs := fun j u hj => by
  rw [World.cell?_of_block (w := w) (by exact Below.heap_alloc w ob _ hb)]
  exact h j u hj

set_option maxRecDepth 100000 in
set_option maxHeartbeats 1000000 in
theorem read_wait {w : World} {O : Nat → Prop} {p : Nat} {kv wv mv : Value} {S : List (List Nat)} {W : List (Nat × List Nat)} {arm : Nat} (h : Dk w O p kv wv mv S W arm false) (a i : Nat) (ha : a < S.length) (hl : lastIdx W a = some i) (hi : i < W.length) :
    Calls Try.prog 75 #[.pointer (some ⟨p, 0, none⟩), .int .i64 (a : Int)] w fun e w' => ∃ o, e = .returned (.tuple #[o, .int .i64 0]) ∧ OwnB w' w.heap.size o W[i].2 ∧ Below w.heap.size w w' := by
  obtain ⟨kg, kc, rfl, hc, hO, hr, hm⟩ := kept_at h ha
  obtain ⟨wg, wc, rfl, hwc, hwO, hws, hwr, hwm⟩ := waits_at h hi
  have hsl := h.good.sl
  have hwl := h.good.wl
  have hh := has_ok h.row (a : Int) hsl
  rw [show hasB S.length (a : Int) = true from by simp [hasB, ha]] at hh
  have c0 := h.row.cell0
  have c1 := h.row.cell1
  have c2 := h.row.cell2
  have hi0 : (a : Int) < (S.length : Int) := by omega
  have hac : a < kc := by omega
  have hi1 : (i : Int) < (W.length : Int) := by omega
  have hic : i < wc := by omega
  have h64 := h.good.s64 _ (List.getElem_mem ha)
  have hw64 := h.good.w64 _ (List.getElem_mem hi)
  obtain ⟨mo, rfl⟩ : ∃ mo, mv = .map mo := by rcases h.last with ⟨e, _⟩ | ⟨m, _, _, e, _⟩; exact ⟨_, e⟩; exact ⟨_, e⟩
  have hps : p < w.heap.size := lt_of_block h.row
  have HH := Lib.hid hh
  have H := Lib.hid h
  have HR := Lib.hid hr
  have HWR := Lib.hid (rangeAt_alloc (rangeAt_tail hwr) hws (.cells (u8s S[a]).toArray 143))
  have H64 := Lib.hid h64
  have HW64 := Lib.hid hw64
  have HLK := Lib.hid (LastM.some_ (h.last.beside (own := fun _ => False) ((Beside.refl _ _).alloc (.cells (u8s S[a]).toArray 143)) (fun _ _ h => h)) hl)
  have H256 := Lib.hid (h.good.w256 _ (List.getElem_mem hi))
  clear hh hr h64 hw64 hwr
  go_enter Try.func75, Try.ntmps75
  go_wp2_with fail
  refine (ready_ok H.out.row).mono ?_
  rintro e w1 ⟨rfl, rfl⟩
  go_wp2_with fail
  refine HH.out.mono ?_
  rintro e w1 ⟨rfl, rfl⟩
  clear h
  go_wp2_with (first | (refine load_sec rfl (.tmp 24) rfl kg (a * 64) rfl S[a] H64.out HR.out ?_) | (refine store_sec rfl (.tmp 7) (.tmp 25) rfl rfl S[a] H64.out rfl (by rfl) ?_) | (at_lookup; refine at_look rfl (.tmp 30) (.tmp 31) rfl _ _ _ rfl rfl HLK.out ?_) | (refine load_sec rfl (.tmp 42) rfl wg (i * 65 + 1) rfl W[i].2 HW64.out HWR.out ?_) | (refine store_sec rfl (.tmp 7) (.tmp 43) rfl rfl W[i].2 HW64.out rfl (by simp [H64.out]) ?_))
  refine (clone_any _ W[i].2 _ (row64 w W[i].2 HW64.out H256.out) (by rw [HW64.out]; decide)).mono ?_
  rintro e w2 ⟨o, rfl, ho, hb⟩
  obtain ⟨oa, oc, rfl⟩ := ho.shape
  have HO := Lib.hid ho
  have HB := Lib.hid hb
  clear ho hb
  go_wp2_with fail
  refine bodyPost_ret (v := .tuple #[.slice oa W[i].2.length oc, .int .i64 0]) (by simp [results, Try.results75, go_sem]) rfl ⟨_, rfl, ?_, ?_⟩
  · exact ⟨HO.out.1, by rcases HO.out.2 with h | ⟨g, cap, cur, e, hg, r⟩; exact .inl h; exact .inr ⟨g, cap, cur, e, by simp at hg; omega, r⟩⟩
  · exact ((Below.refl _ _).alloc (Nat.le_refl _) _).trans (HB.out.mono (by simp))

/-- what a sector shows is read -/
theorem read_ok {w : World} {O : Nat → Prop} {p : Nat} {kv wv mv : Value} {S : List (List Nat)} {W : List (Nat × List Nat)} {arm : Nat} (h : Dk w O p kv wv mv S W arm false) (a : Nat) (ha : a < S.length) :
    Calls Try.prog 75 #[.pointer (some ⟨p, 0, none⟩), .int .i64 (a : Int)] w fun e w' => ∃ o, e = .returned (.tuple #[o, .int .i64 0]) ∧ OwnB w' w.heap.size o (shown S W a) ∧ Below w.heap.size w w' := by
  cases hl : lastIdx W a with
  | none =>
    have e : shown S W a = S[a] := by simp [shown, hl, ha]
    rw [e]
    exact read_kept h a ha hl
  | some i =>
    obtain ⟨hi, _⟩ := lastIdx_some hl
    have e : shown S W a = W[i].2 := by simp [shown, hl, hi]
    rw [e]
    exact read_wait h a i ha hl hi
end
section
set_option linter.unusedVariables false
open Go.RowKit

/-- so many bytes of a sector of bytes over and over, the rest zeros -/
def over (l : List Nat) (k : Nat) : List Nat := (List.range 64).map fun i => if i < k then l.getD (i % l.length) 0 else 0
def secOf (l : List Nat) : List Nat := over l 64
theorem over_len (l : List Nat) (k : Nat) : (over l k).length = 64 := by simp [over]
theorem secOf_len (l : List Nat) : (secOf l).length = 64 := over_len l 64
theorem over_zero (l : List Nat) : over l 0 = zeros 64 := by simp only [over, zeros, Nat.not_lt_zero, if_false]; decide
theorem over_lt {l : List Nat} (h : ∀ n ∈ l, n < 256) (k : Nat) : ∀ n ∈ over l k, n < 256 := by
  intro n hn
  obtain ⟨i, _, rfl⟩ := List.mem_map.1 hn
  split
  · rw [List.getD_eq_getElem?_getD]
    cases hq : l[i % l.length]? with
    | none => simp
    | some x => simpa using h x (List.mem_of_getElem? hq)
  · decide
theorem secOf_lt {l : List Nat} (h : ∀ n ∈ l, n < 256) : ∀ n ∈ secOf l, n < 256 := over_lt h 64
theorem over_nil (k : Nat) : over [] k = zeros 64 := by
  have e : (fun i => if i < k then ([] : List Nat).getD (i % ([] : List Nat).length) 0 else 0) = fun _ => 0 := by funext i; simp
  unfold over
  rw [e]
  decide
theorem over_succ (l : List Nat) (k : Nat) (hk : k < 64) : over l (k + 1) = (over l k).set k (l.getD (k % l.length) 0) := by
  apply List.ext_getElem
  · simp [over]
  · intro i h1 h2
    simp only [over, List.getElem_map, List.getElem_range, List.getElem_set]
    by_cases e : k = i
    · subst e; simp
    · have : (i < k + 1) = (i < k) := by simp; omega
      simp [e, this]

/-- 64 zeros are made -/
theorem make_64 {w : World} {ops : Array Oper} {rest : List Oper} {o : Oper} {a : Act} {Q : Exit → Act → World → Prop} (hg : o.guard = none) (l c : Operand) (hop : o.op = Op.makeSlice 23 l c)
    (hl : a.eval l = .int .i64 64) (hc : a.eval c = .int .i64 64)
    (h : ∀ w', OwnB w' w.heap.size (.slice (some ⟨w.heap.size, 0, none⟩) 64 64) (zeros 64) → Below w.heap.size w w' → wpList Try.prog ops Q rest (a.put o.dst (.slice (some ⟨w.heap.size, 0, none⟩) 64 64)) w') :
    wpList Try.prog ops Q (o :: rest) a w := by
  obtain ⟨i0, hi, hz0, hz1, hz2⟩ := info_parts Try.info5
  refine wpList_make_full _ hg l c 23 hop w.heap.size 5 i0 (.int .u8 0) 1 Try.underlying23 hi hz0 hz1 _ _ _ _ 64 hl hc rfl rfl (by rw [hz2]; decide) (by decide) (Nat.le_refl _) ?_
  intro w' h1 h2
  refine h w' ?_ ((Below.refl _ _).grown h2 (Nat.le_refl _) (by simp))
  have e : (madeCells (Value.int IntKind.u8 0).cells (64 * 1)).toList = u8s (zeros 64) := by kernel_rfl
  rw [e] at h1
  exact h1
end
end Go.Proofs.Ytmnbkhgogogeiaa
