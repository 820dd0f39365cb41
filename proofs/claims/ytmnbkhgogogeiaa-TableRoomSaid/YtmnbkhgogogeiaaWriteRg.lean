/-
  The contract of Write.
-/
import Derived.Test.YtmnbkhgogogeiaaRg4
import Derived.Maps.AppendAt
import Derived.Laws.CopyOwn
import Derived.Great.BuildSlice
import Derived.Deep.RegionLaw
import Derived.Deep.RegionHeld
namespace Go.Proofs.Ytmnbkhgogogeiaa
set_option linter.unusedVariables false
open Go.RowKit

theorem write_down {w : World} {p : Nat} {kv wv mv : Value} {arm : Int} (h : DkV w p kv wv mv arm true) (a : Int) (bv : Value) : Calls Try.prog 95 #[.pointer (some ⟨p, 0, none⟩), .int .i64 a, bv] w fun e w' => e = .returned (.int .i64 3) ∧ w = w' := by
  go_enter Try.func95, Try.ntmps95
  go_wp2_with fail
  refine (ready_ok h).mono ?_
  rintro e w1 ⟨rfl, rfl⟩
  go_wp2_with fail
  go_ret
  exact ⟨rfl, rfl⟩

theorem Beside.setMap {own : Nat → Prop} {a w : World} (h : Beside own a w) {m : Nat} (hp : own m ∨ a.heap.size ≤ m) (o : Obj) : Beside own a (setMap w m o) :=
  ⟨h.os, h.tape, h.output, by simpa [Proofs.Ytmnbkhgogogeiaa.setMap] using h.size, fun i hi hn => by
    have : ¬ i = m := by rintro rfl; rcases hp with hp | hp; exact hn hp; omega
    simp only [Proofs.Ytmnbkhgogogeiaa.setMap]
    rw [Array.getElem?_setIfInBounds_ne (fun e => this e.symm)]
    exact h.block i hi hn⟩
theorem IMap.put {w : World} {m : Nat} {L : List (Int × Int × Nat)} {c : Nat} (h : IMap w m L c) (L' : List (Int × Int × Nat)) (c' : Nat) : IMap (setMap w m (.map (L'.map ent).toArray c')) m L' c' := by
  unfold IMap setMap
  simp only
  rw [Array.getElem?_setIfInBounds_self_of_lt h.lt]
theorem DkV.drew {w : World} {p : Nat} {kv wv mv : Value} {arm : Int} {down : Bool} (h : DkV w p kv wv mv arm down) : DkV w.drew p kv wv mv arm down := h

/-- behind the map's update -/
def WMid (w : World) (O : Nat → Prop) (p : Nat) (kv wv : Value) (W : List (Nat × List Nat)) (arm : Nat) (a : Nat) (b : List Nat) (m : Nat) (w1 : World) : Prop :=
  DkV w1 p kv wv (.map (some m)) arm false ∧ LastM w1 (.map (some m)) (W ++ [(a, b)]) ∧ Beside (fun k => k = p ∨ k = m) w w1 ∧ (O m ∨ w.heap.size ≤ m) ∧ m < w1.heap.size

theorem mid_of {w w2 : World} {O : Nat → Prop} {p : Nat} {kv wv : Value} {W : List (Nat × List Nat)} {arm a m : Nat} {b : List Nat} {L : List (Int × Int × Nat)} {c : Nat} (hv : DkV w2 p kv wv (.map (some m)) arm false) (hm : IMap w2 m L c) (hg : ∀ a : Nat, get L (a : Int) = (lastIdx W a).map Int.ofNat)
    (hb : Beside (fun k => k = p ∨ k = m) w w2) (ho : O m ∨ w.heap.size ≤ m) : WMid w O p kv wv W arm a b m (setMap w2.drew m (.map ((upd L (a : Int) (W.length : Nat) c).map ent).toArray (updc L (a : Int) c))) := by
  have hpm : p ≠ m := by
    rintro rfl
    unfold DkV at hv; unfold IMap at hm; rw [hv] at hm; simp at hm
  refine ⟨?_, .inr ⟨m, _, _, rfl, IMap.put (w := w2.drew) hm _ _, fun x => ?_⟩, Beside.setMap hb.drew (.inl (.inr rfl)) _, ho, ?_⟩
  · unfold DkV at hv ⊢
    simp only [setMap]
    rw [Array.getElem?_setIfInBounds_ne (fun e => hpm e.symm)]
    exact hv
  · rw [get_upd, lastIdx_snoc]
    by_cases e : x = a
    · subst e; simp
    · have e1 : ¬ (x : Int) = (a : Int) := by omega
      have e2 : ¬ a = x := fun h => e h.symm
      simp [e1, e2, hg x]
  · have := hm.lt
    simp only [setMap, Array.size_setIfInBounds]
    exact this

theorem eq_map_some (m : Nat) (w : World) : (binOp .eql 60 (.map (some m)) (.map none)).run Try.prog w = .ok (.bool false) w := by kernel_rfl
theorem eq_map_none (w : World) : (binOp .eql 60 (.map none) (.map none)).run Try.prog w = .ok (.bool true) w := by kernel_rfl

theorem make_map (w : World) : (Instr.makeMap 60 none).run Try.prog w = .ok (.map (some w.heap.size)) (w.alloc (.map #[] 0)) := by kernel_rfl

/-- a write's cells -/
def wrow (n : Int) (l : List Nat) : List Value := .int .i64 n :: u8s l
theorem wrow_len (n : Int) (l : List Nat) (h : l.length = 64) : (wrow n l).length = 65 := by simp [wrow, h]
theorem zero69 (w : World) : (zeroValue 145).run Try.prog w = .ok (.agg (wrow 0 (zeros 64)).toArray) w := by kernel_rfl
theorem load69 : (Try.prog.info? 145).map (·.size) = some 65 := by kernel_rfl
theorem wrow_one (n : Int) (l : List Nat) : ∀ v ∈ wrow n l, v.oneCell' = true := by
  intro v hv
  rcases List.mem_cons.1 hv with rfl | hv
  · rfl
  · exact u8s_one l v hv

theorem run_build69 (n : Int) (w : World) : (Instr.build 145 #[(0, .int .i64 n)]).run Try.prog w = .ok (.agg (wrow n (zeros 64)).toArray) w := by kernel_rfl
/-- a write is built -/
theorem build_write {w : World} {ops : Array Oper} {rest : List Oper} {op : Oper} {a : Act} {Q : Exit → Act → World → Prop} (hgd : op.guard = none) (x : Operand) (ho : op.op = .build 145 #[(0, x)]) (n : Int) (hx : a.eval x = .int .i64 n)
    (h : wpList Try.prog ops Q rest (a.put op.dst (.agg (wrow n (zeros 64)).toArray)) w) : wpList Try.prog ops Q (op :: rest) a w := by
  refine wpList_plain hgd fun K hK => ?_
  have hz := zero69 w
  unfold Oper.wp
  simp [execOp, ho, hx, run_build69 n w, Result.andThen]
  exact hK _ _ h

/-- its variable is made -/
theorem alloc_write {w : World} {ops : Array Oper} {rest : List Oper} {op : Oper} {a : Act} {Q : Exit → Act → World → Prop} (hgd : op.guard = none) (ho : op.op = .alloc 145)
    (h : wpList Try.prog ops Q rest (a.put op.dst (.pointer (some ⟨w.heap.size, 0, none⟩))) (w.alloc (.cells (wrow 0 (zeros 64)).toArray 145))) : wpList Try.prog ops Q (op :: rest) a w := by
  refine wpList_plain hgd fun K hK => ?_
  have hz := zero69 w
  unfold Oper.wp
  simp [execOp, ho, hz, Sem.run_bind, Result.andThen, go_sem]
  exact hK _ _ h

/-- it is stored there -/
theorem store_write {w : World} {ops : Array Oper} {rest : List Oper} {op : Oper} {a : Act} {Q : Exit → Act → World → Prop} (hgd : op.guard = none) (x y : Operand) (ho : op.op = .store 145 x y) {Z X : List Value}
    (hx : a.eval x = .pointer (some ⟨w.heap.size, 0, none⟩)) (hy : a.eval y = .agg X.toArray) (hZ : Z.length = 65) (hX : X.length = 65) (h1 : ∀ v ∈ X, v.oneCell' = true)
    (h : wpList Try.prog ops Q rest (a.put op.dst undef) (w.alloc (.cells X.toArray 145))) : wpList Try.prog ops Q (op :: rest) a (w.alloc (.cells Z.toArray 145)) := by
  refine wpList_store_row hgd 145 x y ho w.heap.size _ hx hy 145 Z.toArray (heap_alloc_new w _) (by rw [load69]; simp [hX]) (by simp [hX, hZ]) (all_oneCell_toArray h1) ?_
  rw [World.setRow_alloc_new]
  exact h

/-- its bytes are copied there -/
theorem copy_write {w : World} {ops : Array Oper} {rest : List Oper} {op : Oper} {a : Act} {Q : Exit → Act → World → Prop} (hgd : op.guard = none) (d s : Operand) (ho : op.op = .call { callee := .builtin .copy, args := #[d, s], argTypes := #[23, 23] })
    (bb bo bc : Nat) (hd : a.eval d = .slice (some ⟨w.heap.size, 1, none⟩) 64 64) (hs : a.eval s = .slice (some ⟨bb, bo, none⟩) 64 bc) (n : Int) (l b : List Nat) (hl : l.length = 64) (hbl : b.length = 64)
    (hsrc : w.rangeAt bb bo (u8s b)) (hbb : bb < w.heap.size)
    (h : wpList Try.prog ops Q rest (a.put op.dst (goInt 64)) (w.alloc (.cells (wrow n b).toArray 145))) : wpList Try.prog ops Q (op :: rest) a (w.alloc (.cells (wrow n l).toArray 145)) := by
  obtain ⟨i0, hi, hz0, hz1, hz2⟩ := info_parts Try.info5
  refine wpList_copy_own hgd d s 23 23 ho 5 Try.underlying23 (by rw [hi]; simp [hz1]) w.heap.size 1 64 64 ⟨bb, bo, none⟩ 64 bc hd hs (wrow n l).toArray 145 (heap_alloc_new w _) (u8s b) (by simp [hbl]) ?_ (by simp [wrow, hl, hbl]) (u8s_one b) ?_
  · intro j v hj
    rw [Addr.add_mid]
    exact rangeAt_alloc hsrc hbb _ j v hj
  · rw [World.setRow_alloc_new, u8s_length, hbl]
    have e : (List.take 1 (wrow n l).toArray.toList ++ (u8s b ++ List.drop (1 + 64) (wrow n l).toArray.toList)) = wrow n b := by
      have : List.drop 65 (wrow n l) = [] := List.drop_eq_nil_of_le (by simp [wrow, hl])
      simp [wrow] at this ⊢
      omega
    rw [e]
    exact h

theorem Try.info145 : (Try.prog.info? 145).map (fun i => (i.zero, i.size, i.bytes)) = some (some (.agg (wrow 0 (zeros 64)).toArray), 65, 72) := by kernel_rfl

theorem run_build60 (X : List Value) (hX : X.length = 65) (w : World) : (Instr.buildSlice 59 1 #[(0, .agg X.toArray)]).run Try.prog w = .ok (.slice (some ⟨w.heap.size, 0, none⟩) 1 1) (w.alloc (.cells X.toArray 145)) := by
  obtain ⟨i0, hi, hz0, hz1, hz2⟩ := info_parts Try.info145
  refine run_buildSlice w 59 145 1 _ _ i0 _ Try.underlying59 hi hz0 (by rw [hz1]; decide) (by rw [hz1]; decide) ?_
  rw [hz1]
  have := Great.fill_whole (s := 65) (by decide) [.agg X.toArray] ((Array.range (1 * 65)).map ((Value.agg (wrow 0 (zeros 64)).toArray).cells[· % (Value.agg (wrow 0 (zeros 64)).toArray).cells.size]!)) (by intro v hv; simp at hv; subst hv; simp [Value.cells, hX]) (by simp)
  simp only [List.zipIdx_cons, List.zipIdx_nil, List.map_cons, List.map_nil, List.flatMap_cons, List.flatMap_nil, List.append_nil, Value.cells] at this
  exact this

/-- one operation of a drawn region whose run is known -/
theorem step_run {ops : Array Oper} {o : Oper} {a : Act} {w w' : World} {K : Act → World → Prop} {Q : Exit → Act → World → Prop} {E : Prop} (hg : o.guard = none) (v : Value) (hrun : (execOp a.eval o).run Try.prog w = .ok (.value v) w') (hK : K (a.put o.dst v) w') :
    if Region.wanted o (yielded ops a.tmps) = true then Oper.wp Try.prog o a w K Q else E := by
  have hw : Region.wanted o (yielded ops a.tmps) = true := by simp [Region.wanted, hg]
  rw [if_pos hw]
  unfold Oper.wp
  rw [hrun]
  exact hK

/-- a write is put behind those that wait -/
theorem step_append_write {ops : Array Oper} {o : Oper} {a : Act} {w : World} {K : Act → World → Prop} {Q : Exit → Act → World → Prop} {E : Prop}
    (hg : o.guard = none) (s x : Operand) (hop : o.op = Op.call { callee := Callee.builtin Builtin.append, args := #[s, x], argTypes := #[59, 59] })
    (v : Value) (n : Nat) (xs : List Value) (hs : a.eval s = v) (hown : w.ownsRow 0 145 65 v n xs) (ad : Addr) (hx : a.eval x = .slice (some ad) 1 1) (news : List Value) (hl : news.length = 65)
    (hnews : ∀ j u, news[j]? = some u → w.cell? (ad.add j) = some u) (h1 : ∀ u ∈ news, u.oneCell' = true) (hn : n < 1000000)
    (hK : ∀ g cap w', w'.ownsRow 0 145 65 (.slice (some ⟨g, 0, none⟩) (n + 1) cap) (n + 1) (xs ++ news) → w.grownBy w' v.ownBlock → (v.ownBlock = some g ∨ g = w.heap.size) → K (a.put o.dst (.slice (some ⟨g, 0, none⟩) (n + 1) cap)) w') :
    if Region.wanted o (yielded ops a.tmps) = true then Oper.wp Try.prog o a w K Q else E := by
  have hw : Region.wanted o (yielded ops a.tmps) = true := by simp [Region.wanted, hg]
  rw [if_pos hw]
  obtain ⟨i0, hi, hz0, hz1, hz2⟩ := info_parts Try.info145
  obtain ⟨v', w', hr, h2, h3, h4, h5⟩ := run_append_own_at (P := Try.prog) w 0 59 o.type 145 i0 _ 65 72 Try.underlying59 hi hz0 hz1 hz2 rfl (by decide) v n xs hown ad 1 1 news (by omega) hnews h1 (by simp [maxLen]; omega) (by omega) (Nat.zero_le _)
  have hr2 : (Builtin.append_ #[59, 59] o.type #[v, .slice (some ad) 1 1]).run Try.prog w = .ok v' w' := hr
  rcases h2.2 with ⟨rfl, h0⟩ | ⟨g, cap, cur, rfl, r⟩
  · omega
  · unfold Oper.wp execOp
    simp only [hop, resolve, invoke, builtin, Sem.run_bind, Sem.run_pure, Result.andThen_ok, List.map_toArray, List.map_cons, List.map_nil, hs, hx, hr2]
    exact hK g cap w' h2 h3 (by rcases h5 with h5 | h5; exact .inl h5.symm; exact .inr (by simpa [Value.ownBlock] using h5))

theorem run_load60 {w : World} {p : Nat} {a : Act} {o : Oper} (x : Operand) (ho : o.op = .load 59 x) (hx : a.eval x = .pointer (some ⟨p, 1, none⟩)) {wa : Option Addr} {n c : Nat} (hc : w.cell? ⟨p, 1, none⟩ = some (.slice wa n c)) : (execOp a.eval o).run Try.prog w = .ok (.value (.slice wa n c)) w := by
  unfold execOp
  simp only [ho, hx]
  go_simp
theorem run_load69 {w : World} {g : Nat} {a : Act} {o : Oper} (x : Operand) (ho : o.op = .load 145 x) (hx : a.eval x = .pointer (some ⟨g, 0, none⟩)) {X : List Value} (hX : X.length = 65) (hc : w.rangeAt g 0 X) : (execOp a.eval o).run Try.prog w = .ok (.value (.agg X.toArray)) w := by
  unfold execOp
  simp only [ho, hx, Sem.run_bind, run_loadAt_mid w g 0 145 X _ hc Try.underlying145 rfl (by rw [load69]; simp [hX]), Sem.run_pure, Result.andThen_ok]
theorem run_build60' {w : World} {a : Act} {o : Oper} (x : Operand) (ho : o.op = .buildSlice 59 1 #[(0, x)]) {X : List Value} (hX : X.length = 65) (hx : a.eval x = .agg X.toArray) : (execOp a.eval o).run Try.prog w = .ok (.value (.slice (some ⟨w.heap.size, 0, none⟩) 1 1)) (w.alloc (.cells X.toArray 145)) := by
  unfold execOp
  simp only [ho, List.map_toArray, List.map_cons, List.map_nil, hx, run_build60 X hX w, Sem.run_bind, Sem.run_pure, Result.andThen_ok]

theorem step_store60 {ops : Array Oper} {o : Oper} {a : Act} {w : World} {K : Act → World → Prop} {Q : Exit → Act → World → Prop} {E : Prop} (hg : o.guard = none) {p : Nat} (x y : Operand) (ho : o.op = .store 59 x y) (hx : a.eval x = .pointer (some ⟨p, 1, none⟩)) {g n c : Nat} (hy : a.eval y = .slice (some ⟨g, 0, none⟩) n c) {u : Value} (hc : w.cell? ⟨p, 1, none⟩ = some u) (hf : w.frozen? ⟨p, 1, none⟩ = false)
    (hK : K (a.put o.dst undef) (w.setCell ⟨p, 1, none⟩ (.slice (some ⟨g, 0, none⟩) n c))) : if Region.wanted o (yielded ops a.tmps) = true then Oper.wp Try.prog o a w K Q else E := by
  have hw : Region.wanted o (yielded ops a.tmps) = true := by simp [Region.wanted, hg]
  rw [if_pos hw]
  unfold Oper.wp execOp
  simp only [ho, hx, hy]
  go_simp
  exact hK
theorem via {T G : Prop} (h : T → G) (t : T) : G := h t

theorem own_lt {w : World} {B : Nat} {e : TypeId} {sz : Nat} {v : Value} {n : Nat} {xs : List Value} (h : w.ownsRow B e sz v n xs) : ∀ k, v.ownBlock = some k → k < w.heap.size := by
  intro k hk
  rcases h.2 with ⟨rfl, _⟩ | ⟨g', cap', cur, rfl, _, hh, _⟩
  · cases hk
  · simp [Value.ownBlock] at hk
    subst hk
    exact lt_of_block hh
theorem own_ne_map {w : World} {B : Nat} {e : TypeId} {sz : Nat} {v : Value} {n : Nat} {xs : List Value} (h : w.ownsRow B e sz v n xs) {m : Nat} {L : List (Int × Int × Nat)} {c : Nat} (hm : IMap w m L c) : ∀ k, v.ownBlock = some k → k ≠ m := by
  intro k hk e
  subst e
  rcases h.2 with ⟨rfl, _⟩ | ⟨g', cap', cur, rfl, _, hh, _⟩
  · cases hk
  · simp [Value.ownBlock] at hk
    subst hk
    unfold IMap at hm; rw [hh] at hm; simp at hm

/-- behind the append -/
theorem write_mid {w3 w5 : World} {O : Nat → Prop} {p m : Nat} {kv wv : Value} {arm : Int} {n : Nat} {xs : List Value} (hv : DkV w3 p kv wv (.map (some m)) arm false) (hw : w3.ownsRow 0 145 65 wv n xs) (X Y : Obj) (hgr : (((w3.alloc X).drew).alloc Y).grownBy w5 wv.ownBlock) :
    DkV w5 p kv wv (.map (some m)) arm false ∧ Beside (fun k => wv.ownBlock = some k) w3 w5 := by
  have hb : Beside (fun k => wv.ownBlock = some k) w3 w5 := Beside.grown (own := fun k => wv.ownBlock = some k) ((((Beside.refl _ _).alloc X).drew).alloc Y) hgr (fun k hk => .inl hk)
  exact ⟨hv.beside hb (fun hk => ownsRow_ne hw hv (by decide) p hk rfl), hb⟩

theorem write_fin {w w3 w5 w7 : World} {O : Nat → Prop} {p m g cap a : Nat} {kv wv mv v : Value} {S : List (List Nat)} {W : List (Nat × List Nat)} {arm arm' : Nat} {down' : Bool} {b : List Nat}
    (h : Dk w O p kv wv mv S W arm false) (ha : a < S.length) (hb : b.length = 64) (h256 : ∀ n ∈ b, n < 256) (hwl : W.length < 1000000)
    (hv3 : DkV w3 p kv wv (.map (some m)) arm false) (hl3 : LastM w3 (.map (some m)) (W ++ [(a, b)])) (hbes : Beside (fun k => k = p ∨ k = m) w w3) (hom : O m ∨ w.heap.size ≤ m) (hmlt : m < w3.heap.size) (hmw : (∃ L c, IMap w m L c) ∨ w.heap.size ≤ m)
    (X Y : Obj) (hgr : (((w3.alloc X).drew).alloc Y).grownBy w5 wv.ownBlock) (hg : wv.ownBlock = some g ∨ g = (((w3.alloc X).drew).alloc Y).heap.size)
    (hown : w5.ownsRow 0 145 65 (.slice (some ⟨g, 0, none⟩) (W.length + 1) cap) (W.length + 1) (wcells W ++ wcell (a, b)))
    (hv7 : DkV w7 p kv (.slice (some ⟨g, 0, none⟩) (W.length + 1) cap) (.map (some m)) arm' down') (hb7 : Beside (· = p) (w5.setCell ⟨p, 1, none⟩ (.slice (some ⟨g, 0, none⟩) (W.length + 1) cap)) w7) :
    DkEnd w O p kv S (W ++ [(a, b)]) arm' down' v (.returned v) w7 := by
  obtain ⟨L, c, hm3, _⟩ : ∃ L c, IMap w3 m L c ∧ ∀ a' : Nat, get L (a' : Int) = (lastIdx (W ++ [(a, b)]) a').map Int.ofNat := by
    rcases hl3 with ⟨e, _⟩ | ⟨m', L, c, e, h1, h2⟩
    · cases e
    · obtain rfl : m = m' := by simpa using e
      exact ⟨L, c, h1, h2⟩
  have hpm : p ≠ m := by
    rintro rfl
    unfold DkV at hv3; unfold IMap at hm3; rw [hv3] at hm3; simp at hm3
  -- the rows, other than the map
  have rown : ∀ {e : TypeId} {sz : Nat} {v : Value} {n : Nat} {xs : List Value}, w3.ownsRow 0 e sz v n xs → ∀ k, v.ownBlock = some k → k ≠ m := by
    intro e sz v n xs hr k hk hkm
    subst hkm
    rcases hr.2 with ⟨rfl, _⟩ | ⟨g', cap', cur, rfl, _, hh, _⟩
    · cases hk
    · simp [Value.ownBlock] at hk
      subst hk
      unfold IMap at hm3; rw [hh] at hm3; simp at hm3
  have rown0 : ∀ {e : TypeId} {sz : Nat} {v : Value} {n : Nat} {xs : List Value}, w.ownsRow 0 e sz v n xs → (∀ k, v.ownBlock = some k → O k) → ∀ k, v.ownBlock = some k → k ≠ m := by
    intro e sz v n xs hr ho k hk hkm
    subst hkm
    rcases hr.2 with ⟨rfl, _⟩ | ⟨g', cap', cur, rfl, _, hh, _⟩
    · cases hk
    · simp [Value.ownBlock] at hk
      subst hk
      have hlt := lt_of_block hh
      rcases hmw with ⟨L', c', hm'⟩ | hm'
      · unfold IMap at hm'; rw [hh] at hm'; simp at hm'
      · omega
  have hwt : w3.ownsRow 0 145 65 wv W.length (wcells W) := ownsRow_beside h.waits hbes (fun k hk => by
    rintro (rfl | rfl)
    · exact ownsRow_ne h.waits h.row (by decide) _ hk rfl
    · exact rown0 h.waits h.ow _ hk rfl)
  have hkt : w3.ownsRow 0 143 64 kv S.length (secs S) := ownsRow_beside h.kept hbes (fun k hk => by
    rintro (rfl | rfl)
    · exact ownsRow_ne h.kept h.row (by decide) _ hk rfl
    · exact rown0 h.kept h.ok _ hk rfl)
  obtain ⟨hv5, hb5⟩ := write_mid (O := O) hv3 hwt X Y hgr
  have hb6 : Beside (· = p) w5 w7 := (Beside.set (Beside.refl _ _) _).trans hb7
  have hb57 : Beside (fun k => k = p ∨ wv.ownBlock = some k) w3 w7 := (hb5.mono fun k _ hk => .inr hk).trans (hb6.mono fun k _ hk => .inl hk)
  have hsz3 := hbes.size
  have hsz5 := hb5.size
  have hsz7 := hb6.size
  have hg7 : g < w7.heap.size := by
    rcases hown.2 with ⟨e, _⟩ | ⟨g', cap', cur, e, _, hh, _⟩
    · cases e
    · simp at e
      obtain ⟨rfl, _⟩ := e
      have := lt_of_block hh
      omega
  refine ⟨.slice (some ⟨g, 0, none⟩) (W.length + 1) cap, .map (some m), fun k => O k ∨ (w.heap.size ≤ k ∧ k < w7.heap.size), rfl, ⟨hv7, ?_, ?_, ?_, ?_, .inl h.op, fun k hk => .inl (h.ok k hk), ?_, ?_⟩, ?_, fun k hk => hk⟩
  · exact ownsRow_beside hkt hb57 (fun k hk => by
      rintro (rfl | hk2)
      · exact ownsRow_ne hkt hv3 (by decide) _ hk rfl
      · rcases hwt.2 with ⟨rfl, _⟩ | ⟨g', cap', cur, rfl, _, hh, _⟩
        · cases hk2
        · simp [Value.ownBlock] at hk2
          subst hk2
          exact ownsRow_ne hkt hh (by decide) _ hk rfl)
  · rw [List.length_append, List.length_singleton, show wcells (W ++ [(a, b)]) = wcells W ++ wcell (a, b) from by simp [wcells]]
    exact ownsRow_beside hown hb6 (fun k hk => ownsRow_ne hown hv5 (by decide) k hk)
  · exact hl3.beside hb57 (fun k hk => by
      obtain rfl : m = k := by simpa using hk
      rintro (e | hk2)
      · exact hpm e.symm
      · exact rown hwt _ hk2 rfl)
  · have hG := h.good
    exact ⟨hG.s64, hG.s256, fun x hx => by rcases List.mem_append.1 hx with hx | hx; exact hG.w64 x hx; simp at hx; subst hx; exact hb,
      fun x hx => by rcases List.mem_append.1 hx with hx | hx; exact hG.w256 x hx; simp at hx; subst hx; exact h256,
      fun x hx => by rcases List.mem_append.1 hx with hx | hx; exact hG.wat x hx; simp at hx; subst hx; exact ha, hG.sl, by simp; omega⟩
  · intro k hk
    obtain rfl : g = k := by simpa [Value.ownBlock] using hk
    rcases hg with hg | hg
    · exact .inl (h.ow _ hg)
    · refine .inr ⟨?_, hg7⟩
      rw [hg]
      simp
      omega
  · intro k hk
    obtain rfl : m = k := by simpa using hk
    rcases hom with hom | hom
    · exact .inl hom
    · exact .inr ⟨hom, by omega⟩
  · refine (hbes.mono fun k hk hkk => ?_).trans (hb57.mono fun k hk hkk => ?_)
    · rcases hkk with rfl | rfl
      · exact h.op
      · rcases hom with hom | hom
        · exact hom
        · omega
    · rcases hkk with rfl | hk2
      · exact h.op
      · exact h.ow _ hk2

set_option maxRecDepth 100000 in
set_option maxHeartbeats 1000000 in
theorem write_ok {w : World} {O : Nat → Prop} {p : Nat} {kv wv mv : Value} {S : List (List Nat)} {W : List (Nat × List Nat)} {arm : Nat} (h : Dk w O p kv wv mv S W arm false) (a : Nat) (ha : a < S.length) (bv : Value) (b : List Nat) (hb : RowB w bv b) (hbl : b.length = 64) (hbo : ∀ k, bv.ownBlock = some k → ¬ O k)
    (hwl : W.length < 1000000) (harm : arm ≤ 9223372036854775807) :
    Calls Try.prog 95 #[.pointer (some ⟨p, 0, none⟩), .int .i64 (a : Int), bv] w fun e w' => DkEnd w O p kv S (W ++ [(a, b)]) (hitOf arm).1 (hitOf arm).2 (.int .i64 (if (hitOf arm).2 then 3 else 0)) e w' := by
  obtain ⟨a2, d2, hh2⟩ : ∃ a2 d2, hitOf arm = (a2, d2) := ⟨_, _, rfl⟩
  rw [hh2]
  simp only
  have HHIT := Lib.hid hh2
  clear hh2
  obtain ⟨kg, kc, rfl, hc, hO, hr, hm⟩ := kept_at h ha
  clear hr
  have hh := has_ok h.row (a : Int) h.good.sl
  rw [show hasB S.length (a : Int) = true from by simp [hasB, ha]] at hh
  obtain ⟨bb, bo, bc, rfl, -, hbc, hbm, hbcell⟩ : ∃ bb bo bc, bv = .slice (some ⟨bb, bo, none⟩) b.length bc ∧ 0 < b.length ∧ b.length ≤ bc ∧ bc ≤ maxLen ∧ ∀ j, (hj : j < b.length) → w.cell? ⟨bb, bo + j, none⟩ = some (.int .u8 (b[j] : Nat)) := by
    rcases hb.shape with ⟨rfl, _⟩ | ⟨bb, bo, bc, rfl, h1, h2, h3, h4⟩
    · simp at hbl
    · exact ⟨bb, bo, bc, rfl, h1, h2, h3, h4⟩
  have HBL := Lib.hid hbl
  rw [hbl] at hbo hbc ⊢
  clear hbl
  have c2 := h.row.cell2
  have f2 := h.row.free 2
  have c1 := h.row.cell1
  have hps : p < w.heap.size := lt_of_block h.row
  obtain ⟨wa, wc, rfl⟩ : ∃ wa wc, wv = .slice wa W.length wc := by
    rcases h.waits.2 with ⟨e, h0⟩ | ⟨g, cap, cur, e, _⟩
    · exact ⟨_, _, by rw [e, h0]⟩
    · exact ⟨_, _, e⟩
  have HH := Lib.hid hh
  have H := Lib.hid h
  have HBC := Lib.hid hbcell
  have H256 := Lib.hid hb.lt
  clear hh hbcell hb
  have he0 := eq_map_none
  have he1 := eq_map_some
  have hmk := make_map
  rcases H.out.last with ⟨rfl, hW1⟩ | ⟨m, L, c, rfl, hm, hg⟩
  focus
    have hW0 := Lib.hid hW1
    clear hW1
    go_enter Try.func95, Try.ntmps95
    go_wp2_with fail
    refine (ready_ok H.out.row).mono ?_
    rintro e w1 ⟨rfl, rfl⟩
    go_wp2_with fail
    refine HH.out.mono ?_
    rintro e w1 ⟨rfl, rfl⟩
    go_wp2_with fail
    have hb0 : Beside (fun k => k = p ∨ k = w.heap.size) w ((w.setCell ⟨p, 2, none⟩ (.map (some w.heap.size))).alloc (.map #[] 0)) := (Beside.setCell (own := fun k => k = p ∨ k = w.heap.size) (Beside.refl _ _) (.inl (.inl rfl)) _).alloc _
    have hv0 : DkV ((w.setCell ⟨p, 2, none⟩ (.map (some w.heap.size))).alloc (.map #[] 0)) p (.slice (some ⟨kg, 0, none⟩) S.length kc) (.slice wa W.length wc) (.map (some w.heap.size)) arm false := (H.out.row.set2 _).beside (own := fun _ => False) ((Beside.refl _ _).alloc _) (fun h => h)
    have hm0 : IMap ((w.setCell ⟨p, 2, none⟩ (.map (some w.heap.size))).alloc (.map #[] 0)) w.heap.size [] 0 := by
      have := heap_alloc_new (w.setCell ⟨p, 2, none⟩ (.map (some w.heap.size))) (.map #[] 0)
      rwa [show (w.setCell ⟨p, 2, none⟩ (.map (some w.heap.size))).heap.size = w.heap.size from by simp [World.setCell]] at this
    have ho0 : O w.heap.size ∨ w.heap.size ≤ w.heap.size := .inr (Nat.le_refl _)
    have hg0 : ∀ a : Nat, get [] (a : Int) = (lastIdx W a).map Int.ofNat := by rw [hW0.out]; intro a; simp [lastIdx_nil, get, at?]
    generalize (w.setCell ⟨p, 2, none⟩ (.map (some w.heap.size))).alloc (.map #[] 0) = w2 at *
    have hmid := Lib.hid (mid_of (O := O) (b := b) (arm := arm) (a := a) hv0 hm0 hg0 hb0 ho0)
    have hput := run_update w.heap.size 0 [] (a : Int) (W.length : Nat) w2.drew hm0
    have d2 := hv0.cell2
    have d1 := hv0.cell1
    clear hv0 hm0 hb0 hg0 ho0
    generalize hmE : w.heap.size = m at hmid hput d2 ⊢
    have HME := Lib.hid hmE
    clear hmE
    go_region
    clear hput d2 d1 c1 c2 f2
    generalize setMap w2.drew m (.map ((upd [] (a : Int) (W.length : Nat) 0).map ent).toArray (updc [] (a : Int) 0)) = w3 at hmid ⊢
    have HMW : Hid (∀ k, (Value.slice wa W.length wc).ownBlock = some k → k ≠ m) := Lib.hid fun k hk e => by
      have := own_lt H.out.waits k hk
      have := HME.out
      omega
    have HMW2 : Hid ((∃ L c, IMap w m L c) ∨ w.heap.size ≤ m) := Lib.hid (.inr (by have := HME.out; omega))
  rotate_left
  focus
    go_enter Try.func95, Try.ntmps95
    go_wp2_with fail
    refine (ready_ok H.out.row).mono ?_
    rintro e w1 ⟨rfl, rfl⟩
    go_wp2_with fail
    refine HH.out.mono ?_
    rintro e w1 ⟨rfl, rfl⟩
    go_wp2_with fail
    have hmid := Lib.hid (mid_of (b := b) (arm := arm) (a := a) H.out.row hm hg (Beside.refl _ _) (.inl (H.out.om m rfl)))
    have hput := run_update m c L (a : Int) (W.length : Nat) w.drew hm
    go_region
    clear hput c1 c2 f2
    generalize setMap w.drew m (.map ((upd L (a : Int) (W.length : Nat) c).map ent).toArray (updc L (a : Int) c)) = w3 at hmid ⊢
    have HMW : Hid (∀ k, (Value.slice wa W.length wc).ownBlock = some k → k ≠ m) := Lib.hid (own_ne_map H.out.waits hm)
    have HMW2 : Hid ((∃ L c, IMap w m L c) ∨ w.heap.size ≤ m) := Lib.hid (.inl ⟨L, c, hm⟩)
    clear hm hg
  all_goals
    obtain ⟨hv, hl, hbes, hom, hmlt⟩ := hmid.out
    have d1 := hv.cell1
    have HV := Lib.hid hv
    have HL := Lib.hid hl
    have HB := Lib.hid hbes
    clear hv hl hbes hmid
    have hsrc : w3.rangeAt bb bo (u8s b) := by
      intro j v hj
      have hjl : j < b.length := by have := (List.getElem?_eq_some_iff.1 hj).1; simpa using this
      have hc := HBC.out j hjl
      rw [u8s_get b j hjl] at hj
      cases hj
      have hbw := World.block_lt_of_cell? w _ hc
      rw [World.cell?_of_block (w := w) (HB.out.block bb hbw (by rintro (rfl | rfl); exact hbo _ rfl H.out.op; rcases hom with h | h; exact hbo _ rfl h; exact absurd hbw (by simp; omega)))]
      exact hc
    have hbb3 : bb < w3.heap.size := Nat.lt_of_lt_of_le (World.block_lt_of_cell? w _ (HBC.out 0 (by rw [HBL.out]; decide))) HB.out.size
    have HSRC := Lib.hid hsrc
    clear hsrc
    go_wp2_with (first | (refine build_write rfl _ rfl _ rfl ?_) | (refine alloc_write rfl rfl ?_) | (refine store_write rfl (.tmp 8) (.tmp 43) rfl rfl rfl (wrow_len _ _ (by simp [zeros])) (wrow_len _ _ (by simp [zeros])) (wrow_one _ _) ?_) | (refine copy_write rfl (.tmp 45) (.tmp 46) rfl bb bo bc rfl rfl _ _ b (by simp [zeros]) HBL.out HSRC.out hbb3 ?_))
    have HR4 : Hid ((w3.alloc (.cells (wrow (a : Int) b).toArray 145)).rangeAt w3.heap.size 0 (wrow (a : Int) b)) := Lib.hid fun j v hj => by
      rw [Nat.zero_add, cell_of_row _ _ j _ 145 (0, 0) (heap_alloc_new w3 _)]
      simpa using hj
    have e1 : (w3.alloc (.cells (wrow (a : Int) b).toArray 145)).cell? ⟨p, 1, none⟩ = some (.slice wa W.length wc) := (HV.out.beside (own := fun _ => False) ((Beside.refl _ _).alloc _) (fun h => h)).cell1
    have hX := wrow_len (a : Int) b HBL.out
    have hwt3 : w3.ownsRow 0 145 65 (.slice wa W.length wc) W.length (wcells W) := ownsRow_beside H.out.waits HB.out (fun k hk => by
      rintro (rfl | rfl)
      · exact ownsRow_ne H.out.waits H.out.row (by decide) _ hk rfl
      · exact HMW.out _ hk rfl)
    have HWT : Hid (((w3.alloc (.cells (wrow (a : Int) b).toArray 145)).drew.alloc (.cells (wrow (a : Int) b).toArray 145)).ownsRow 0 145 65 (.slice wa W.length wc) W.length (wcells W)) := Lib.hid (ownsRow_beside (own := fun _ => False) hwt3 ((((Beside.refl _ _).alloc _).drew).alloc _) (fun _ _ h => h))
    have HW3 := Lib.hid hwt3
    clear hwt3
    refine wp_region_any (by kernel_rfl) ?_
    try (change wpAny _ _ _ _ _ _ _ (World.drew _))
    refine wpAny_take (i := 0) (oi := ⟨_, _, _, _, _, _⟩) (v := ?_) rfl (by kernel_rfl) (by kernel_rfl) (by kernel_rfl) (fun _ _ _ h => h) (Or.inl ⟨by rfl, ?_⟩) ?_
    rotate_left
    · intro w; go_simp <;> with_reducible rfl
    simp only [Act.put, List.setIfInBounds_toArray, List.set_cons_zero, List.set_cons_succ]
    refine wpAny_take (i := 1) (oi := ⟨_, _, _, _, _, _⟩) (v := ?_) rfl (by kernel_rfl) (by kernel_rfl) (by kernel_rfl) (fun _ _ _ h => h) (Or.inl ⟨by rfl, ?_⟩) ?_
    rotate_left
    · intro w; go_simp <;> with_reducible rfl
    simp only [Act.put, List.setIfInBounds_toArray, List.set_cons_zero, List.set_cons_succ]
    refine wpAny_take (i := 2) (oi := ⟨_, _, _, _, _, _⟩) (v := ?_) rfl (by kernel_rfl) (by kernel_rfl) (by kernel_rfl) (fun _ _ _ h => h) (Or.inl ⟨by rfl, ?_⟩) ?_
    rotate_left
    · intro w; go_simp <;> with_reducible rfl
    simp only [Act.put, List.setIfInBounds_toArray, List.set_cons_zero, List.set_cons_succ]
    refine wpAny_take (i := 3) (oi := ⟨_, _, _, _, _, _⟩) (v := ?_) rfl (by kernel_rfl) (by kernel_rfl) (by kernel_rfl) (fun _ _ _ h => h) (Or.inl ⟨by rfl, ?_⟩) ?_
    rotate_left
    · intro w; go_simp <;> with_reducible rfl
    simp only [Act.put, List.setIfInBounds_toArray, List.set_cons_zero, List.set_cons_succ]
    apply via
    · intro hT
      refine wpAny_ready (rs := [4, 5]) (by kernel_rfl) (by simp) ?_
      refine AllReady.cons (o := ⟨_, _, _, _, _, _⟩) rfl (fun K hK => ?_) ?_
      · refine step_run rfl _ (run_load60 (.tmp 51) rfl rfl e1) (hK _ _ ?_)
        simp only [Act.put, List.setIfInBounds_toArray, List.set_cons_zero, List.set_cons_succ]
        refine wpAny_ready (rs := [5]) (by kernel_rfl) (by simp) ?_
        refine AllReady.cons (o := ⟨_, _, _, _, _, _⟩) rfl (fun K hK => ?_) ?_
        · refine step_run rfl _ (run_load69 (.tmp 8) rfl rfl hX HR4.out) (hK _ _ ?_)
          simp only [Act.put, List.setIfInBounds_toArray, List.set_cons_zero, List.set_cons_succ]
          refine wpAny_ready (rs := [6]) (by kernel_rfl) (by simp) ?_
          refine AllReady.cons (o := ⟨_, _, _, _, _, _⟩) rfl (fun K hK => ?_) ?_
          · refine step_run rfl _ (run_build60' (.tmp 53) rfl hX rfl) (hK _ _ ?_)
            simp only [Act.put, List.setIfInBounds_toArray, List.set_cons_zero, List.set_cons_succ]
            exact hT
          · exact AllReady.nil
        · exact AllReady.nil
      · refine AllReady.cons (o := ⟨_, _, _, _, _, _⟩) rfl (fun K hK => ?_) ?_
        · refine step_run rfl _ (run_load69 (.tmp 8) rfl rfl hX HR4.out) (hK _ _ ?_)
          simp only [Act.put, List.setIfInBounds_toArray, List.set_cons_zero, List.set_cons_succ]
          refine wpAny_ready (rs := [4, 6]) (by kernel_rfl) (by simp) ?_
          refine AllReady.cons (o := ⟨_, _, _, _, _, _⟩) rfl (fun K hK => ?_) ?_
          · refine step_run rfl _ (run_load60 (.tmp 51) rfl rfl e1) (hK _ _ ?_)
            simp only [Act.put, List.setIfInBounds_toArray, List.set_cons_zero, List.set_cons_succ]
            refine wpAny_ready (rs := [6]) (by kernel_rfl) (by simp) ?_
            refine AllReady.cons (o := ⟨_, _, _, _, _, _⟩) rfl (fun K hK => ?_) ?_
            · refine step_run rfl _ (run_build60' (.tmp 53) rfl hX rfl) (hK _ _ ?_)
              simp only [Act.put, List.setIfInBounds_toArray, List.set_cons_zero, List.set_cons_succ]
              exact hT
            · exact AllReady.nil
          · refine AllReady.cons (o := ⟨_, _, _, _, _, _⟩) rfl (fun K hK => ?_) ?_
            · refine step_run rfl _ (run_build60' (.tmp 53) rfl hX rfl) (hK _ _ ?_)
              simp only [Act.put, List.setIfInBounds_toArray, List.set_cons_zero, List.set_cons_succ]
              refine wpAny_ready (rs := [4]) (by kernel_rfl) (by simp) ?_
              refine AllReady.cons (o := ⟨_, _, _, _, _, _⟩) rfl (fun K hK => ?_) ?_
              · refine step_run rfl _ (run_load60 (.tmp 51) rfl rfl ((HV.out.beside (own := fun _ => False) ((((Beside.refl _ _).alloc _).drew).alloc _) (fun h => h)).cell1)) (hK _ _ ?_)
                simp only [Act.put, List.setIfInBounds_toArray, List.set_cons_zero, List.set_cons_succ]
                exact hT
              · exact AllReady.nil
            · exact AllReady.nil
        · exact AllReady.nil
    refine wpAny_ready (rs := [7]) (by kernel_rfl) (by simp) ?_
    refine AllReady.cons (o := ⟨_, _, _, _, _, _⟩) rfl (fun K hK => ?_) ?_
    · refine step_append_write rfl (.tmp 52) (.tmp 54) rfl _ W.length (wcells W) rfl HWT.out _ rfl (wrow (a : Int) b) hX (fun j v hj => by
        rw [Addr.add_mid, Nat.zero_add, cell_of_row _ _ j _ 145 (0, 0) (heap_alloc_new _ _)]
        simpa using hj) (wrow_one _ _) hwl (fun g cap w5 hown hgr hg => hK _ _ ?_)
      clear hK K
      obtain ⟨hv5, _⟩ := write_mid (O := O) HV.out HW3.out _ _ hgr
      have d1 := hv5.cell1
      have g1 := hv5.free 1
      have HF : Hid (∀ (w7 : World) (arm' : Nat) (down' : Bool) (v : Value), DkV w7 p (.slice (some ⟨kg, 0, none⟩) S.length kc) (.slice (some ⟨g, 0, none⟩) (W.length + 1) cap) (.map (some m)) arm' down' → Beside (· = p) (w5.setCell ⟨p, 1, none⟩ (.slice (some ⟨g, 0, none⟩) (W.length + 1) cap)) w7 → DkEnd w O p (.slice (some ⟨kg, 0, none⟩) S.length kc) S (W ++ [(a, b)]) arm' down' v (.returned v) w7) :=
        Lib.hid fun w7 arm' down' v h7 hb7 => write_fin H.out ha HBL.out H256.out hwl HV.out HL.out HB.out hom hmlt HMW2.out _ _ hgr hg hown h7 hb7
      have HV6 := Lib.hid (hv5.set1 (.slice (some ⟨g, 0, none⟩) (W.length + 1) cap))
      clear hv5 hgr hg hown
      simp only [Act.put, List.setIfInBounds_toArray, List.set_cons_zero, List.set_cons_succ]
      refine wpAny_take (i := 8) (oi := ⟨_, _, _, _, _, _⟩) (v := ?_) rfl (by kernel_rfl) (by kernel_rfl) (by kernel_rfl) (fun _ _ _ h => h) (Or.inl ⟨by rfl, ?_⟩) ?_
      rotate_left
      · intro w; go_simp <;> with_reducible rfl
      simp only [Act.put, List.setIfInBounds_toArray, List.set_cons_zero, List.set_cons_succ]
      refine wpAny_take (i := 9) (oi := ⟨_, _, _, _, _, _⟩) (v := ?_) rfl (by kernel_rfl) (by kernel_rfl) (by kernel_rfl) (fun _ _ _ h => h) (Or.inl ⟨by rfl, ?_⟩) ?_
      rotate_left
      · intro w; go_simp <;> with_reducible rfl
      simp only [Act.put, List.setIfInBounds_toArray, List.set_cons_zero, List.set_cons_succ]
      refine wpAny_ready (rs := [10]) (by kernel_rfl) (by simp) ?_
      refine AllReady.cons (o := ⟨_, _, _, _, _, _⟩) rfl (fun K hK => ?_) ?_
      · refine step_store60 rfl (.tmp 57) (.tmp 55) rfl rfl rfl d1 g1 (hK _ _ ?_)
        clear hK K
        refine wpAny_done (by kernel_rfl) ?_ _
        go_wp2_with fail
        have hk := hit_ok HV6.out harm
        rw [HHIT.out] at hk
        simp only at hk
        refine hk.mono ?_
        rintro e w7 ⟨rfl, h7, hb7⟩
        have HE := Lib.hid fun v => HF.out w7 _ _ v h7 hb7
        clear h7 hb7 HF HV6 hk
        cases d2
        · go_wp2_with fail
          go_ret
          exact HE.out _
        · go_wp2_with fail
          go_ret
          exact HE.out _
      · exact AllReady.nil
    · exact AllReady.nil
end Go.Proofs.Ytmnbkhgogogeiaa
