/-
  The iterator of Scan, where a round's body may turn some blocks (X) that are neither the iterator's nor the table's.  Made by mkitrx.py out of Itr and ScnG.
-/
import Derived.Test.YtmnbkhgogogeiaaRg28
namespace Go.Proofs.Ytmnbkhgogogeiaa
set_option linter.unusedVariables false
open Go.RowKit

/-- below M all blocks but X's lie as they lay -/
structure Bx (X : Nat → Prop) (M : Nat) (A B : World) : Prop where
  size : A.heap.size ≤ B.heap.size
  block : ∀ k, k < M → ¬ X k → B.heap[k]? = A.heap[k]?
theorem Bx.refl (X : Nat → Prop) (M : Nat) (A : World) : Bx X M A A := ⟨Nat.le_refl _, fun _ _ _ => rfl⟩
theorem Bx.trans {X : Nat → Prop} {M : Nat} {A B C : World} (h : Bx X M A B) (k : Bx X M B C) : Bx X M A C := ⟨Nat.le_trans h.size k.size, fun i h1 h2 => (k.block i h1 h2).trans (h.block i h1 h2)⟩
theorem Bx.of {X : Nat → Prop} {M : Nat} {A B : World} (h : Below M A B) : Bx X M A B := ⟨h.size, fun k hk _ => h.block k hk⟩
theorem Bx.cell {X : Nat → Prop} {M : Nat} {A B : World} (h : Bx X M A B) (p : Addr) (h1 : p.block < M) (h2 : ¬ X p.block) : B.cell? p = A.cell? p := World.cell?_of_block (h.block _ h1 h2)
theorem RowB.bx {X : Nat → Prop} {w w' : World} {v : Value} {l : List Nat} {M : Nat} (h : RowB w v l) (hb : Bx X M w w') (hs : ∀ k, v.ownBlock = some k → k < M ∧ ¬ X k) : RowB w' v l := by
  obtain ⟨a, len, cap, rfl, h1, h2, h3, h4, h5, h6⟩ := h
  refine ⟨a, len, cap, rfl, h1, h2, h3, h4, h5, fun x hx i hi => ?_⟩
  have := h6 x hx i hi
  have e : (x.add i).block = x.block := by unfold Addr.add; split <;> rfl
  rw [hx] at hs
  rw [hb.cell (x.add i) (by rw [e]; exact (hs x.block rfl).1) (by rw [e]; exact (hs x.block rfl).2)]
  exact this
structure ItX (X : Nat → Prop) (W : World) (M b g cap : Nat) (L : List Pr) : Prop where
  box : Boxed W b 66 (.slice (some ⟨g, 0, none⟩) L.length cap)
  cell : ∀ i (h : i < L.length), W.cell? ⟨g, i * 2, none⟩ = some L[i].kv ∧ W.cell? ⟨g, i * 2 + 1, none⟩ = some L[i].vv
  rows : ∀ i (h : i < L.length), RowB W L[i].kv L[i].key ∧ RowB W L[i].vv L[i].val
  low : b < M ∧ g < M ∧ M ≤ W.heap.size ∧ ∀ i (h : i < L.length), (∀ k, L[i].kv.ownBlock = some k → k < M ∧ ¬ X k) ∧ ∀ k, L[i].vv.ownBlock = some k → k < M ∧ ¬ X k
  size : ∀ i (h : i < L.length), L[i].key.length ≤ 100000 ∧ L[i].val.length ≤ 100000
  nox : ¬ X b ∧ ¬ X g
theorem ItX.below {X : Nat → Prop} {W W' : World} {M b g cap : Nat} {L : List Pr} (h : ItX X W M b g cap L) (hb : Bx X M W W') : ItX X W' M b g cap L :=
  ⟨(hb.block b h.low.1 h.nox.1).trans h.box, fun i hi => ⟨(hb.cell ⟨g, i * 2, none⟩ h.low.2.1 h.nox.2).trans (h.cell i hi).1, (hb.cell ⟨g, i * 2 + 1, none⟩ h.low.2.1 h.nox.2).trans (h.cell i hi).2⟩,
    fun i hi => ⟨RowB.bx (h.rows i hi).1 hb (h.low.2.2.2 i hi).1, RowB.bx (h.rows i hi).2 hb (h.low.2.2.2 i hi).2⟩, ⟨h.low.1, h.low.2.1, Nat.le_trans h.low.2.2.1 hb.size, h.low.2.2.2⟩, h.size, h.nox⟩

set_option maxRecDepth 100000 in
set_option maxHeartbeats 4000000 in
theorem itr_onX (X : Nat → Prop) (n M b g cap : Nat) (L : List Pr) (hL : L.length ≤ 100000) (hc : L.length ≤ cap) :
    SeqV Fence.wide n Try.prog 39 #[.pointer (some ⟨b, 0, none⟩)] (ItE M) (fun A B => Bx X M A B) L (fun W => ItX X W M b g cap L) := by
  intro y J Jx W hs hJ hJx hY h0
  have HS := Lib.hid hs
  have HJ := Lib.hid hJ
  have HJX := Lib.hid hJx
  have HY := Lib.hid hY
  have hbc := hs.box.cell
  clear hs hJ hJx hY
  refine callsIn_of_wp Try.func39 rfl trivial ?_ rfl
  simp only [Try.ntmps39, List.size_toArray, List.length_cons, List.length_nil, Nat.reduceAdd, Nat.reduceSub, Array.replicate_succ, Array.replicate_zero, List.push_toArray, List.append_toArray, List.nil_append, List.cons_append]
  gi_wp2
  gi_loopw [7] (fun i wr => ∃ k : Nat, k ≤ L.length ∧ i = .int .i64 (k : Nat) ∧ Bx X M W wr ∧ J (L.take k) wr) (fun i _ => L.length - (RowKit.intOf i).toNat)
  case atStart => exact ⟨0, Nat.zero_le _, rfl, Bx.refl _ _ _, by simpa using h0⟩
  case round =>
    obtain ⟨k, hk, rfl, hb, hj⟩ := hrel
    by_cases hlt : k < L.length
    · have hsw := HS.out.below hb
      obtain ⟨c1, c2⟩ := hsw.cell k hlt
      obtain ⟨r1, r2⟩ := hsw.rows k hlt
      obtain ⟨z1, z2⟩ := hsw.size k hlt
      have hlz : (k : Int) < (L.length : Int) := by omega
      have hsplit : L = L.take k ++ L[k] :: L.drop (k + 1) := by rw [List.getElem_cons_drop, List.take_append_drop]
      have HSP := Lib.hid hsplit
      have HSW := Lib.hid hsw
      have HB := Lib.hid hb
      have HJJ := Lib.hid hj
      have HR := Lib.hid (And.intro r1 r2)
      have HZ := Lib.hid (And.intro z1 z2)
      clear hsplit hsw hb hj r1 r2 z1 z2
      obtain ⟨kv, hkv⟩ : ∃ kv, L[k].kv = kv := ⟨_, rfl⟩
      obtain ⟨vv, hvv⟩ : ∃ vv, L[k].vv = vv := ⟨_, rfl⟩
      rw [hkv] at c1 HR
      rw [hvv] at c2 HR
      obtain ⟨ka, kl, kc, rfl, -⟩ := HR.out.1
      obtain ⟨va, vl, vc, rfl, -⟩ := HR.out.2
      have HKV := Lib.hid (And.intro hkv hvv)
      clear hkv hvv
      have hnew := heap_alloc_new wr (.cells #[.slice ka kl kc, .slice va vl vc] 79)
      have hbn : Below wr.heap.size wr (wr.alloc (.cells #[.slice ka kl kc, .slice va vl vc] 79)) := (Below.refl _ _).alloc (Nat.le_refl _) _
      gi_wp2
      rename_i K1 hK1
      have hpl : wr.heap.size < (wr.alloc (.cells #[.slice ka kl kc, .slice va vl vc] 79)).heap.size := by simp
      generalize wr.alloc (.cells #[.slice ka kl kc, .slice va vl vc] 79) = W0 at *
      obtain ⟨p, hp⟩ : ∃ p, wr.heap.size = p := ⟨_, rfl⟩
      rw [hp] at hnew hpl ⊢
      have HCL : Hid (∀ w1, Below W0.heap.size W0 w1 → w1.cell? ⟨p, 0, none⟩ = some (.slice ka kl kc) ∧ w1.cell? ⟨p, 1, none⟩ = some (.slice va vl vc)) := Lib.hid fun w1 h1 => by
        have h2 := (h1.block p hpl).trans hnew
        exact ⟨cell_of_row w1 p 0 _ _ _ h2, cell_of_row w1 p 1 _ _ _ h2⟩
      have HCK : Hid (∀ w1, Below W0.heap.size W0 w1 → Calls Try.prog 37 #[.slice ka kl kc] w1 fun e w' => ∃ o, e = .returned o ∧ OwnB w' w1.heap.size o L[k].key ∧ Below w1.heap.size w1 w') := Lib.hid fun w1 h1 =>
        bclone_any _ _ w1 ((HR.out.1.below hbn).below h1) (Nat.le_trans HZ.out.1 (by decide))
      have HCV : Hid (∀ w1, Below W0.heap.size W0 w1 → Calls Try.prog 37 #[.slice va vl vc] w1 fun e w' => ∃ o, e = .returned o ∧ OwnB w' w1.heap.size o L[k].val ∧ Below w1.heap.size w1 w') := Lib.hid fun w1 h1 =>
        bclone_any _ _ w1 ((HR.out.2.below hbn).below h1) (Nat.le_trans HZ.out.2 (by decide))
      have HBN := Lib.hid hbn
      clear hnew hbn
      obtain ⟨QQ, hQQ⟩ : ∃ QQ : Exit → Act → World → Prop, QQ = fun e a' w' => e = .normal ∧ ∃ (o1 o2 : Value) (z : Bool), a' = { tmps := #[.func (.yield y) #[] #[], .pointer (some ⟨b, 0, none⟩), undef, undef, .pointer (some ⟨p, 0, none⟩), .slice (some ⟨g, 0, none⟩) L.length cap, .int .i64 (L.length : Nat), .int .i64 (k : Nat), .bool true, .pointer (some ⟨g, k * 2, none⟩), .agg #[.slice ka kl kc, .slice va vl vc], .func (.yield y) #[] #[], .pointer (some ⟨p, 0, none⟩), .slice ka kl kc, o1, .pointer (some ⟨p, 1, none⟩), .slice va vl vc, o2, .bool z, .bool (!z)], defers := [] } ∧
        ((z = true ∧ J (L.take k ++ [L[k]]) w' ∧ Bx X M W w') ∨ (z = false ∧ Jx (L.take k ++ [L[k]]) w')) := ⟨_, rfl⟩
      have HQP : ∀ c a w, ¬ QQ (.panic c) a w := fun c a w h => by rw [hQQ] at h; exact nomatch h.1
      have HQN : Hid (∀ (o1 o2 : Value) (z : Bool) (w' : World), ((z = true ∧ J (L.take k ++ [L[k]]) w' ∧ Bx X M W w') ∨ (z = false ∧ Jx (L.take k ++ [L[k]]) w')) → QQ .normal { tmps := #[.func (.yield y) #[] #[], .pointer (some ⟨b, 0, none⟩), undef, undef, .pointer (some ⟨p, 0, none⟩), .slice (some ⟨g, 0, none⟩) L.length cap, .int .i64 (L.length : Nat), .int .i64 (k : Nat), .bool true, .pointer (some ⟨g, k * 2, none⟩), .agg #[.slice ka kl kc, .slice va vl vc], .func (.yield y) #[] #[], .pointer (some ⟨p, 0, none⟩), .slice ka kl kc, o1, .pointer (some ⟨p, 1, none⟩), .slice va vl vc, o2, .bool z, .bool (!z)], defers := [] } w') := Lib.hid fun o1 o2 z w' h => by rw [hQQ]; exact ⟨rfl, o1, o2, z, rfl, h⟩
      have HQQ := Lib.hid hQQ
      have hMW : M ≤ wr.heap.size := HSW.out.low.2.2.1
      have hM0 : M ≤ W0.heap.size := Nat.le_trans hMW HBN.out.size
      clear hQQ
      obtain ⟨QQ, hQQ⟩ : ∃ QQ : Exit → Act → World → Prop, QQ = fun e a' w' => e = .normal ∧ ∃ (o1 o2 : Value) (z : Bool), a' = { tmps := #[.func (.yield y) #[] #[], .pointer (some ⟨b, 0, none⟩), undef, undef, .pointer (some ⟨p, 0, none⟩), .slice (some ⟨g, 0, none⟩) L.length cap, .int .i64 (L.length : Nat), .int .i64 (k : Nat), .bool true, .pointer (some ⟨g, k * 2, none⟩), .agg #[.slice ka kl kc, .slice va vl vc], .func (.yield y) #[] #[], .pointer (some ⟨p, 0, none⟩), .slice ka kl kc, o1, .pointer (some ⟨p, 1, none⟩), .slice va vl vc, o2, .bool z, .bool (!z)], defers := [] } ∧
        ((z = true ∧ J (L.take k ++ [L[k]]) w' ∧ Bx X M W w') ∨ (z = false ∧ Jx (L.take k ++ [L[k]]) w')) := ⟨_, rfl⟩
      have HQP : ∀ c a w, ¬ QQ (.panic c) a w := fun c a w h => by rw [hQQ] at h; exact nomatch h.1
      have HQN : Hid (∀ (o1 o2 : Value) (z : Bool) (w' : World), ((z = true ∧ J (L.take k ++ [L[k]]) w' ∧ Bx X M W w') ∨ (z = false ∧ Jx (L.take k ++ [L[k]]) w')) → QQ .normal { tmps := #[.func (.yield y) #[] #[], .pointer (some ⟨b, 0, none⟩), undef, undef, .pointer (some ⟨p, 0, none⟩), .slice (some ⟨g, 0, none⟩) L.length cap, .int .i64 (L.length : Nat), .int .i64 (k : Nat), .bool true, .pointer (some ⟨g, k * 2, none⟩), .agg #[.slice ka kl kc, .slice va vl vc], .func (.yield y) #[] #[], .pointer (some ⟨p, 0, none⟩), .slice ka kl kc, o1, .pointer (some ⟨p, 1, none⟩), .slice va vl vc, o2, .bool z, .bool (!z)], defers := [] } w') := Lib.hid fun o1 o2 z w' h => by rw [hQQ]; exact ⟨rfl, o1, o2, z, rfl, h⟩
      have HQQ := Lib.hid hQQ
      have hMW : M ≤ wr.heap.size := HSW.out.low.2.2.1
      have hM0 : M ≤ W0.heap.size := Nat.le_trans hMW HBN.out.size
      clear hQQ
      obtain ⟨QQ, hQQ⟩ : ∃ QQ : Exit → Act → World → Prop, QQ = fun e a' w' => e = .normal ∧ ∃ (o1 o2 : Value) (z : Bool), a' = { tmps := #[.func (.yield y) #[] #[], .pointer (some ⟨b, 0, none⟩), undef, undef, .pointer (some ⟨p, 0, none⟩), .slice (some ⟨g, 0, none⟩) L.length cap, .int .i64 (L.length : Nat), .int .i64 (k : Nat), .bool true, .pointer (some ⟨g, k * 2, none⟩), .agg #[.slice ka kl kc, .slice va vl vc], .func (.yield y) #[] #[], .pointer (some ⟨p, 0, none⟩), .slice ka kl kc, o1, .pointer (some ⟨p, 1, none⟩), .slice va vl vc, o2, .bool z, .bool (!z)], defers := [] } ∧
        ((z = true ∧ J (L.take k ++ [L[k]]) w' ∧ Bx X M W w') ∨ (z = false ∧ Jx (L.take k ++ [L[k]]) w')) := ⟨_, rfl⟩
      have HQP : ∀ c a w, ¬ QQ (.panic c) a w := fun c a w h => by rw [hQQ] at h; exact nomatch h.1
      have HQN : Hid (∀ (o1 o2 : Value) (z : Bool) (w' : World), ((z = true ∧ J (L.take k ++ [L[k]]) w' ∧ Bx X M W w') ∨ (z = false ∧ Jx (L.take k ++ [L[k]]) w')) → QQ .normal { tmps := #[.func (.yield y) #[] #[], .pointer (some ⟨b, 0, none⟩), undef, undef, .pointer (some ⟨p, 0, none⟩), .slice (some ⟨g, 0, none⟩) L.length cap, .int .i64 (L.length : Nat), .int .i64 (k : Nat), .bool true, .pointer (some ⟨g, k * 2, none⟩), .agg #[.slice ka kl kc, .slice va vl vc], .func (.yield y) #[] #[], .pointer (some ⟨p, 0, none⟩), .slice ka kl kc, o1, .pointer (some ⟨p, 1, none⟩), .slice va vl vc, o2, .bool z, .bool (!z)], defers := [] } w') := Lib.hid fun o1 o2 z w' h => by rw [hQQ]; exact ⟨rfl, o1, o2, z, rfl, h⟩
      have HQQ := Lib.hid hQQ
      have hMW : M ≤ wr.heap.size := HSW.out.low.2.2.1
      have hM0 : M ≤ W0.heap.size := Nat.le_trans hMW HBN.out.size
      clear hQQ
      obtain ⟨QQ, hQQ⟩ : ∃ QQ : Exit → Act → World → Prop, QQ = fun e a' w' => e = .normal ∧ ∃ (o1 o2 : Value) (z : Bool), a' = { tmps := #[.func (.yield y) #[] #[], .pointer (some ⟨b, 0, none⟩), undef, undef, .pointer (some ⟨p, 0, none⟩), .slice (some ⟨g, 0, none⟩) L.length cap, .int .i64 (L.length : Nat), .int .i64 (k : Nat), .bool true, .pointer (some ⟨g, k * 2, none⟩), .agg #[.slice ka kl kc, .slice va vl vc], .func (.yield y) #[] #[], .pointer (some ⟨p, 0, none⟩), .slice ka kl kc, o1, .pointer (some ⟨p, 1, none⟩), .slice va vl vc, o2, .bool z, .bool (!z), u20], defers := [] } ∧
        ((z = true ∧ J (L.take k ++ [L[k]]) w' ∧ Bx X M W w') ∨ (z = false ∧ Jx (L.take k ++ [L[k]]) w')) := ⟨_, rfl⟩
      have HQP : ∀ c a w, ¬ QQ (.panic c) a w := fun c a w h => by rw [hQQ] at h; exact nomatch h.1
      have HQN : Hid (∀ (o1 o2 : Value) (z : Bool) (w' : World), ((z = true ∧ J (L.take k ++ [L[k]]) w' ∧ Bx X M W w') ∨ (z = false ∧ Jx (L.take k ++ [L[k]]) w')) → QQ .normal { tmps := #[.func (.yield y) #[] #[], .pointer (some ⟨b, 0, none⟩), undef, undef, .pointer (some ⟨p, 0, none⟩), .slice (some ⟨g, 0, none⟩) L.length cap, .int .i64 (L.length : Nat), .int .i64 (k : Nat), .bool true, .pointer (some ⟨g, k * 2, none⟩), .agg #[.slice ka kl kc, .slice va vl vc], .func (.yield y) #[] #[], .pointer (some ⟨p, 0, none⟩), .slice ka kl kc, o1, .pointer (some ⟨p, 1, none⟩), .slice va vl vc, o2, .bool z, .bool (!z), u20], defers := [] } w') := Lib.hid fun o1 o2 z w' h => by rw [hQQ]; exact ⟨rfl, o1, o2, z, rfl, h⟩
      have HQQ := Lib.hid hQQ
      have hMW : M ≤ wr.heap.size := HSW.out.low.2.2.1
      have hM0 : M ≤ W0.heap.size := Nat.le_trans hMW HBN.out.size
      clear hQQ
      obtain ⟨QQ, hQQ⟩ : ∃ QQ : Exit → Act → World → Prop, QQ = fun e a' w' => e = .normal ∧ ∃ (o1 o2 : Value) (z : Bool), a' = { tmps := #[.func (.yield y) #[] #[], .pointer (some ⟨b, 0, none⟩), undef, undef, .pointer (some ⟨p, 0, none⟩), .slice (some ⟨g, 0, none⟩) L.length cap, .int .i64 (L.length : Nat), .int .i64 (k : Nat), .bool true, .pointer (some ⟨g, k * 2, none⟩), .agg #[.slice ka kl kc, .slice va vl vc], .func (.yield y) #[] #[], .pointer (some ⟨p, 0, none⟩), .slice ka kl kc, o1, .pointer (some ⟨p, 1, none⟩), .slice va vl vc, o2, .bool z, .bool (!z), u20], defers := [] } ∧
        ((z = true ∧ J (L.take k ++ [L[k]]) w' ∧ Bx X M W w') ∨ (z = false ∧ Jx (L.take k ++ [L[k]]) w')) := ⟨_, rfl⟩
      have HQP : ∀ c a w, ¬ QQ (.panic c) a w := fun c a w h => by rw [hQQ] at h; exact nomatch h.1
      have HQN : Hid (∀ (o1 o2 : Value) (z : Bool) (w' : World), ((z = true ∧ J (L.take k ++ [L[k]]) w' ∧ Bx X M W w') ∨ (z = false ∧ Jx (L.take k ++ [L[k]]) w')) → QQ .normal { tmps := #[.func (.yield y) #[] #[], .pointer (some ⟨b, 0, none⟩), undef, undef, .pointer (some ⟨p, 0, none⟩), .slice (some ⟨g, 0, none⟩) L.length cap, .int .i64 (L.length : Nat), .int .i64 (k : Nat), .bool true, .pointer (some ⟨g, k * 2, none⟩), .agg #[.slice ka kl kc, .slice va vl vc], .func (.yield y) #[] #[], .pointer (some ⟨p, 0, none⟩), .slice ka kl kc, o1, .pointer (some ⟨p, 1, none⟩), .slice va vl vc, o2, .bool z, .bool (!z), u20], defers := [] } w') := Lib.hid fun o1 o2 z w' h => by rw [hQQ]; exact ⟨rfl, o1, o2, z, rfl, h⟩
      have HQQ := Lib.hid hQQ
      have hMW : M ≤ wr.heap.size := HSW.out.low.2.2.1
      have hM0 : M ≤ W0.heap.size := Nat.le_trans hMW HBN.out.size
      clear hQQ
      obtain ⟨QQ, hQQ⟩ : ∃ QQ : Exit → Act → World → Prop, QQ = fun e a' w' => e = .normal ∧ ∃ (o1 o2 : Value) (z : Bool), a' = { tmps := #[.func (.yield y) #[] #[], .pointer (some ⟨b, 0, none⟩), undef, undef, .pointer (some ⟨p, 0, none⟩), .slice (some ⟨g, 0, none⟩) L.length cap, .int .i64 (L.length : Nat), .int .i64 (k : Nat), .bool true, .pointer (some ⟨g, k * 2, none⟩), .agg #[.slice ka kl kc, .slice va vl vc], .func (.yield y) #[] #[], .pointer (some ⟨p, 0, none⟩), .slice ka kl kc, o1, .pointer (some ⟨p, 1, none⟩), .slice va vl vc, o2, .bool z, .bool (!z), u20], defers := [] } ∧
        ((z = true ∧ J (L.take k ++ [L[k]]) w' ∧ Bx X M W w') ∨ (z = false ∧ Jx (L.take k ++ [L[k]]) w')) := ⟨_, rfl⟩
      have HQP : ∀ c a w, ¬ QQ (.panic c) a w := fun c a w h => by rw [hQQ] at h; exact nomatch h.1
      have HQN : Hid (∀ (o1 o2 : Value) (z : Bool) (w' : World), ((z = true ∧ J (L.take k ++ [L[k]]) w' ∧ Bx X M W w') ∨ (z = false ∧ Jx (L.take k ++ [L[k]]) w')) → QQ .normal { tmps := #[.func (.yield y) #[] #[], .pointer (some ⟨b, 0, none⟩), undef, undef, .pointer (some ⟨p, 0, none⟩), .slice (some ⟨g, 0, none⟩) L.length cap, .int .i64 (L.length : Nat), .int .i64 (k : Nat), .bool true, .pointer (some ⟨g, k * 2, none⟩), .agg #[.slice ka kl kc, .slice va vl vc], .func (.yield y) #[] #[], .pointer (some ⟨p, 0, none⟩), .slice ka kl kc, o1, .pointer (some ⟨p, 1, none⟩), .slice va vl vc, o2, .bool z, .bool (!z), u20], defers := [] } w') := Lib.hid fun o1 o2 z w' h => by rw [hQQ]; exact ⟨rfl, o1, o2, z, rfl, h⟩
      have HQQ := Lib.hid hQQ
      have hMW : M ≤ wr.heap.size := HSW.out.low.2.2.1
      have hM0 : M ≤ W0.heap.size := Nat.le_trans hMW HBN.out.size
      clear hQQ
      obtain ⟨QQ, hQQ⟩ : ∃ QQ : Exit → Act → World → Prop, QQ = fun e a' w' => e = .normal ∧ ∃ (o1 o2 : Value) (z : Bool), a' = { tmps := #[.func (.yield y) #[] #[], .pointer (some ⟨b, 0, none⟩), undef, undef, .pointer (some ⟨p, 0, none⟩), .slice (some ⟨g, 0, none⟩) L.length cap, .int .i64 (L.length : Nat), .int .i64 (k : Nat), .bool true, .pointer (some ⟨g, k * 2, none⟩), .agg #[.slice ka kl kc, .slice va vl vc], .func (.yield y) #[] #[], .pointer (some ⟨p, 0, none⟩), .slice ka kl kc, o1, .pointer (some ⟨p, 1, none⟩), .slice va vl vc, o2, .bool z, .bool (!z), u20], defers := [] } ∧
        ((z = true ∧ J (L.take k ++ [L[k]]) w' ∧ Bx X M W w') ∨ (z = false ∧ Jx (L.take k ++ [L[k]]) w')) := ⟨_, rfl⟩
      have HQP : ∀ c a w, ¬ QQ (.panic c) a w := fun c a w h => by rw [hQQ] at h; exact nomatch h.1
      have HQN : Hid (∀ (o1 o2 : Value) (z : Bool) (w' : World), ((z = true ∧ J (L.take k ++ [L[k]]) w' ∧ Bx X M W w') ∨ (z = false ∧ Jx (L.take k ++ [L[k]]) w')) → QQ .normal { tmps := #[.func (.yield y) #[] #[], .pointer (some ⟨b, 0, none⟩), undef, undef, .pointer (some ⟨p, 0, none⟩), .slice (some ⟨g, 0, none⟩) L.length cap, .int .i64 (L.length : Nat), .int .i64 (k : Nat), .bool true, .pointer (some ⟨g, k * 2, none⟩), .agg #[.slice ka kl kc, .slice va vl vc], .func (.yield y) #[] #[], .pointer (some ⟨p, 0, none⟩), .slice ka kl kc, o1, .pointer (some ⟨p, 1, none⟩), .slice va vl vc, o2, .bool z, .bool (!z), u20], defers := [] } w') := Lib.hid fun o1 o2 z w' h => by rw [hQQ]; exact ⟨rfl, o1, o2, z, rfl, h⟩
      have HQQ := Lib.hid hQQ
      have hMW : M ≤ wr.heap.size := HSW.out.low.2.2.1
      have hM0 : M ≤ W0.heap.size := Nat.le_trans hMW HBN.out.size
      clear hQQ
      obtain ⟨QQ, hQQ⟩ : ∃ QQ : Exit → Act → World → Prop, QQ = fun e a' w' => e = .normal ∧ ∃ (o1 o2 : Value) (z : Bool), a' = { tmps := #[.func (.yield y) #[] #[], .pointer (some ⟨b, 0, none⟩), undef, undef, .pointer (some ⟨p, 0, none⟩), .slice (some ⟨g, 0, none⟩) L.length cap, .int .i64 (L.length : Nat), .int .i64 (k : Nat), .bool true, .pointer (some ⟨g, k * 2, none⟩), .agg #[.slice ka kl kc, .slice va vl vc], .func (.yield y) #[] #[], .pointer (some ⟨p, 0, none⟩), .slice ka kl kc, o1, .pointer (some ⟨p, 1, none⟩), .slice va vl vc, o2, .bool z, .bool (!z), u20], defers := [] } ∧
        ((z = true ∧ J (L.take k ++ [L[k]]) w' ∧ Bx X M W w') ∨ (z = false ∧ Jx (L.take k ++ [L[k]]) w')) := ⟨_, rfl⟩
      have HQP : ∀ c a w, ¬ QQ (.panic c) a w := fun c a w h => by rw [hQQ] at h; exact nomatch h.1
      have HQN : Hid (∀ (o1 o2 : Value) (z : Bool) (w' : World), ((z = true ∧ J (L.take k ++ [L[k]]) w' ∧ Bx X M W w') ∨ (z = false ∧ Jx (L.take k ++ [L[k]]) w')) → QQ .normal { tmps := #[.func (.yield y) #[] #[], .pointer (some ⟨b, 0, none⟩), undef, undef, .pointer (some ⟨p, 0, none⟩), .slice (some ⟨g, 0, none⟩) L.length cap, .int .i64 (L.length : Nat), .int .i64 (k : Nat), .bool true, .pointer (some ⟨g, k * 2, none⟩), .agg #[.slice ka kl kc, .slice va vl vc], .func (.yield y) #[] #[], .pointer (some ⟨p, 0, none⟩), .slice ka kl kc, o1, .pointer (some ⟨p, 1, none⟩), .slice va vl vc, o2, .bool z, .bool (!z), u20], defers := [] } w') := Lib.hid fun o1 o2 z w' h => by rw [hQQ]; exact ⟨rfl, o1, o2, z, rfl, h⟩
      have HQQ := Lib.hid hQQ
      have hMW : M ≤ wr.heap.size := HSW.out.low.2.2.1
      have hM0 : M ≤ W0.heap.size := Nat.le_trans hMW HBN.out.size
      clear hQQ
      refine wpIn_mono (Q := QQ) ?reg ?rest
      case reg =>
        refine wpIn_region_any (by kernel_rfl) ?_
        change wpAnyIn _ _ _ _ _ _ _ _ _ (World.drew _)
        refine wpAnyIn_take (i := 0) (v := .func (.yield y) #[] #[]) rfl rfl (by kernel_rfl) (by kernel_rfl) (by kernel_rfl) (fun _ _ _ h => absurd h (HQP _ _ _)) ⟨Or.inl ⟨by rfl, by intro w; go_simp⟩, fun _ => rfl⟩ ?_
        refine wpAnyIn_take (i := 1) (v := .pointer (some ⟨p, 0, none⟩)) rfl rfl (by kernel_rfl) (by kernel_rfl) (by kernel_rfl) (fun _ _ _ h => absurd h (HQP _ _ _)) ⟨Or.inl ⟨by rfl, by intro w; go_simp⟩, fun _ => rfl⟩ ?_
        refine wpAnyIn_take (i := 4) (v := .pointer (some ⟨p, 1, none⟩)) rfl rfl (by kernel_rfl) (by kernel_rfl) (by kernel_rfl) (fun _ _ _ h => absurd h (HQP _ _ _)) ⟨Or.inl ⟨by rfl, by intro w; go_simp⟩, fun _ => rfl⟩ ?_
        have hd0 : Below W0.heap.size W0 W0.drew := (Below.refl _ _).drew
        have hM1 : M ≤ W0.drew.heap.size := Nat.le_trans hM0 hd0.size
        obtain ⟨cA, cB⟩ := HCL.out _ hd0
        generalize W0.drew = W1 at *
        refine wpAnyIn_ready (rs := [2, 5]) (by kernel_rfl) (by simp) (AllReadyIn.cons rfl (fun K hK => ?_) (AllReadyIn.cons rfl (fun K hK => ?_) AllReadyIn.nil))
        · go_simp
          refine hK _ _ ?_
          clear hK K
          refine wpAnyIn_ready (rs := [3, 5]) (by kernel_rfl) (by simp) (AllReadyIn.cons rfl (fun K hK => ?_) (AllReadyIn.cons rfl (fun K hK => ?_) AllReadyIn.nil))
          · go_simp
            refine ⟨trivial, (fun h => by cases h), ?_⟩
            refine (callsIn_wide.2 (HCK.out _ hd0)).mono ?_
            rintro e W1a ⟨o3, rfl, hk3, hbb⟩
            refine hK _ _ ?_
            clear hK K
            have hd0a := hd0.trans (hbb.mono hd0.size)
            have hMa : M ≤ W1.heap.size := Nat.le_trans hM0 hd0.size
            have hMb : M ≤ W1a.heap.size := Nat.le_trans hM0 hd0a.size
            obtain ⟨cAa, cBa⟩ := HCL.out _ hd0a
            refine wpAnyIn_ready (rs := [5]) (by kernel_rfl) (by simp) (AllReadyIn.cons rfl (fun K hK => ?_) AllReadyIn.nil)
            · go_simp
              refine hK _ _ ?_
              clear hK K
              refine wpAnyIn_ready (rs := [6]) (by kernel_rfl) (by simp) (AllReadyIn.cons rfl (fun K hK => ?_) AllReadyIn.nil)
              · go_simp
                refine ⟨trivial, (fun h => by cases h), ?_⟩
                refine (callsIn_wide.2 (HCV.out _ hd0a)).mono ?_
                rintro e W1aa ⟨o6, rfl, hk6, hbb⟩
                refine hK _ _ ?_
                clear hK K
                have hd0aa := hd0a.trans (hbb.mono hd0a.size)
                have hE : ItE M L[k] W1aa o3 o6 := itE_mk1 hk3 hMa hMb hbb hk6
                have hbw : Below wr.heap.size wr W1aa := HBN.out.trans (hd0aa.mono HBN.out.size)
                have HBM := Lib.hid (HB.out.trans (Bx.of (hbw.mono hMW)))
                obtain ⟨fn, tmps, assign, body, hy, hR⟩ := HY.out (L.take k) L[k] (L.drop (k + 1)) o3 o6 W1aa HSP.out hE (HJ.out _ _ _ HJJ.out hbw)
                clear hE hbw
                refine wpAnyIn_ready (rs := [7]) (by kernel_rfl) (by simp) (AllReadyIn.cons rfl (fun K hK => ?_) AllReadyIn.nil)
                go_simp
                refine ⟨(fun h => by cases h), hR.mono ?_⟩
                rintro e W3 (⟨rfl, hj3, hb3⟩ | ⟨rfl, hx3⟩)
                · refine hK _ _ ?_
                  clear hK K
                  refine wpAnyIn_ready (rs := [8]) (by kernel_rfl) (by simp) (AllReadyIn.cons rfl (fun K hK => ?_) AllReadyIn.nil)
                  go_simp
                  refine hK _ _ ?_
                  clear hK K
                  refine wpAnyIn_done (by kernel_rfl) ?_ _
                  exact HQN.out o3 o6 true W3 (.inl ⟨rfl, hj3, HBM.out.trans hb3⟩)
                · refine hK _ _ ?_
                  clear hK K
                  refine wpAnyIn_ready (rs := [8]) (by kernel_rfl) (by simp) (AllReadyIn.cons rfl (fun K hK => ?_) AllReadyIn.nil)
                  go_simp
                  refine hK _ _ ?_
                  clear hK K
                  refine wpAnyIn_done (by kernel_rfl) ?_ _
                  exact HQN.out o3 o6 false W3 (.inr ⟨rfl, hx3⟩)
          · go_simp
            refine hK _ _ ?_
            clear hK K
            refine wpAnyIn_ready (rs := [3]) (by kernel_rfl) (by simp) (AllReadyIn.cons rfl (fun K hK => ?_) AllReadyIn.nil)
            · go_simp
              refine ⟨trivial, (fun h => by cases h), ?_⟩
              refine (callsIn_wide.2 (HCK.out _ hd0)).mono ?_
              rintro e W1a ⟨o3, rfl, hk3, hbb⟩
              refine hK _ _ ?_
              clear hK K
              have hd0a := hd0.trans (hbb.mono hd0.size)
              have hMa : M ≤ W1.heap.size := Nat.le_trans hM0 hd0.size
              have hMb : M ≤ W1a.heap.size := Nat.le_trans hM0 hd0a.size
              obtain ⟨cAa, cBa⟩ := HCL.out _ hd0a
              refine wpAnyIn_ready (rs := [6]) (by kernel_rfl) (by simp) (AllReadyIn.cons rfl (fun K hK => ?_) AllReadyIn.nil)
              · go_simp
                refine ⟨trivial, (fun h => by cases h), ?_⟩
                refine (callsIn_wide.2 (HCV.out _ hd0a)).mono ?_
                rintro e W1aa ⟨o6, rfl, hk6, hbb⟩
                refine hK _ _ ?_
                clear hK K
                have hd0aa := hd0a.trans (hbb.mono hd0a.size)
                have hE : ItE M L[k] W1aa o3 o6 := itE_mk1 hk3 hMa hMb hbb hk6
                have hbw : Below wr.heap.size wr W1aa := HBN.out.trans (hd0aa.mono HBN.out.size)
                have HBM := Lib.hid (HB.out.trans (Bx.of (hbw.mono hMW)))
                obtain ⟨fn, tmps, assign, body, hy, hR⟩ := HY.out (L.take k) L[k] (L.drop (k + 1)) o3 o6 W1aa HSP.out hE (HJ.out _ _ _ HJJ.out hbw)
                clear hE hbw
                refine wpAnyIn_ready (rs := [7]) (by kernel_rfl) (by simp) (AllReadyIn.cons rfl (fun K hK => ?_) AllReadyIn.nil)
                go_simp
                refine ⟨(fun h => by cases h), hR.mono ?_⟩
                rintro e W3 (⟨rfl, hj3, hb3⟩ | ⟨rfl, hx3⟩)
                · refine hK _ _ ?_
                  clear hK K
                  refine wpAnyIn_ready (rs := [8]) (by kernel_rfl) (by simp) (AllReadyIn.cons rfl (fun K hK => ?_) AllReadyIn.nil)
                  go_simp
                  refine hK _ _ ?_
                  clear hK K
                  refine wpAnyIn_done (by kernel_rfl) ?_ _
                  exact HQN.out o3 o6 true W3 (.inl ⟨rfl, hj3, HBM.out.trans hb3⟩)
                · refine hK _ _ ?_
                  clear hK K
                  refine wpAnyIn_ready (rs := [8]) (by kernel_rfl) (by simp) (AllReadyIn.cons rfl (fun K hK => ?_) AllReadyIn.nil)
                  go_simp
                  refine hK _ _ ?_
                  clear hK K
                  refine wpAnyIn_done (by kernel_rfl) ?_ _
                  exact HQN.out o3 o6 false W3 (.inr ⟨rfl, hx3⟩)
        · go_simp
          refine hK _ _ ?_
          clear hK K
          refine wpAnyIn_ready (rs := [2]) (by kernel_rfl) (by simp) (AllReadyIn.cons rfl (fun K hK => ?_) AllReadyIn.nil)
          · go_simp
            refine hK _ _ ?_
            clear hK K
            refine wpAnyIn_ready (rs := [3]) (by kernel_rfl) (by simp) (AllReadyIn.cons rfl (fun K hK => ?_) AllReadyIn.nil)
            · go_simp
              refine ⟨trivial, (fun h => by cases h), ?_⟩
              refine (callsIn_wide.2 (HCK.out _ hd0)).mono ?_
              rintro e W1a ⟨o3, rfl, hk3, hbb⟩
              refine hK _ _ ?_
              clear hK K
              have hd0a := hd0.trans (hbb.mono hd0.size)
              have hMa : M ≤ W1.heap.size := Nat.le_trans hM0 hd0.size
              have hMb : M ≤ W1a.heap.size := Nat.le_trans hM0 hd0a.size
              obtain ⟨cAa, cBa⟩ := HCL.out _ hd0a
              refine wpAnyIn_ready (rs := [6]) (by kernel_rfl) (by simp) (AllReadyIn.cons rfl (fun K hK => ?_) AllReadyIn.nil)
              · go_simp
                refine ⟨trivial, (fun h => by cases h), ?_⟩
                refine (callsIn_wide.2 (HCV.out _ hd0a)).mono ?_
                rintro e W1aa ⟨o6, rfl, hk6, hbb⟩
                refine hK _ _ ?_
                clear hK K
                have hd0aa := hd0a.trans (hbb.mono hd0a.size)
                have hE : ItE M L[k] W1aa o3 o6 := itE_mk1 hk3 hMa hMb hbb hk6
                have hbw : Below wr.heap.size wr W1aa := HBN.out.trans (hd0aa.mono HBN.out.size)
                have HBM := Lib.hid (HB.out.trans (Bx.of (hbw.mono hMW)))
                obtain ⟨fn, tmps, assign, body, hy, hR⟩ := HY.out (L.take k) L[k] (L.drop (k + 1)) o3 o6 W1aa HSP.out hE (HJ.out _ _ _ HJJ.out hbw)
                clear hE hbw
                refine wpAnyIn_ready (rs := [7]) (by kernel_rfl) (by simp) (AllReadyIn.cons rfl (fun K hK => ?_) AllReadyIn.nil)
                go_simp
                refine ⟨(fun h => by cases h), hR.mono ?_⟩
                rintro e W3 (⟨rfl, hj3, hb3⟩ | ⟨rfl, hx3⟩)
                · refine hK _ _ ?_
                  clear hK K
                  refine wpAnyIn_ready (rs := [8]) (by kernel_rfl) (by simp) (AllReadyIn.cons rfl (fun K hK => ?_) AllReadyIn.nil)
                  go_simp
                  refine hK _ _ ?_
                  clear hK K
                  refine wpAnyIn_done (by kernel_rfl) ?_ _
                  exact HQN.out o3 o6 true W3 (.inl ⟨rfl, hj3, HBM.out.trans hb3⟩)
                · refine hK _ _ ?_
                  clear hK K
                  refine wpAnyIn_ready (rs := [8]) (by kernel_rfl) (by simp) (AllReadyIn.cons rfl (fun K hK => ?_) AllReadyIn.nil)
                  go_simp
                  refine hK _ _ ?_
                  clear hK K
                  refine wpAnyIn_done (by kernel_rfl) ?_ _
                  exact HQN.out o3 o6 false W3 (.inr ⟨rfl, hx3⟩)
      case rest =>
        rintro e a' w' h
        rw [HQQ.out] at h
        obtain ⟨rfl, o1, o2, z, rfl, h⟩ := h
        rcases h with ⟨rfl, hj3, hb3⟩ | ⟨rfl, hx3⟩
        · have htk : L.take (k + 1) = L.take k ++ [L[k]] := by rw [List.take_add_one, List.getElem?_eq_getElem hlt]; rfl
          rw [← htk] at hj3
          have HJ3 := Lib.hid hj3
          have HB3 := Lib.hid hb3
          clear hj3 hb3 htk HQP hMW hM0
          simp only [Exit.then]
          refine hK1 _ _ ?_
          simp only [Bool.not_true]
          gi_wp2
          go_roundw
          case rel => exact ⟨k + 1, hlt, by go_num, HB3.out, HJ3.out⟩
          case measure => simp [intOf]; omega
        · clear HQP hMW hM0
          simp only [Exit.then]
          refine hK1 _ _ ?_
          simp only [Bool.not_false]
          gi_wp2
          refine bodyPost_ret (results_none rfl _ _ _) rfl ?_
          exact ⟨⟨_, rfl⟩, .inr ⟨L.take k ++ [L[k]], ⟨L.drop (k + 1), by rw [List.append_assoc]; exact HSP.out.symm⟩, hx3⟩⟩
    · have hkl : k = L.length := by omega
      have HJ3 := Lib.hid hj
      have HB3 := Lib.hid hb
      have hlz : ¬ (k : Int) < (L.length : Int) := by omega
      clear hj hb
      gi_wp2
      go_end0
      exact ⟨⟨_, rfl⟩, .inl (by have := HJ3.out; rwa [hkl, List.take_length] at this)⟩

theorem itr_nilX (X : Nat → Prop) (n p M : Nat) : SeqV Fence.wide n Try.prog 39 #[.pointer (some ⟨p, 0, none⟩)] (ItE M) (fun A B => Bx X M A B) [] (fun W => W.cell? ⟨p, 0, none⟩ = some (.slice none 0 0)) := by
  intro y J Jx W hc hJ hJx hY h0
  refine callsIn_of_wp Try.func39 rfl trivial ?_ rfl
  simp only [Try.ntmps39, List.size_toArray, List.length_cons, List.length_nil, Nat.reduceAdd, Nat.reduceSub, Array.replicate_succ, Array.replicate_zero, List.push_toArray, List.append_toArray, List.nil_append, List.cons_append]
  gi_wp2
  gi_loopw [7] (fun i wr => i = .int .i64 0 ∧ wr = W) (fun _ _ => 0)
  case atStart => exact ⟨rfl, rfl⟩
  case round =>
    obtain ⟨rfl, rfl⟩ := hrel
    gi_wp2
    go_end0
    exact ⟨⟨_, rfl⟩, .inl h0⟩

/-- Scan's answer: an iterator of all pairs -/
theorem scan_seqX {X : Nat → Prop} {w : World} {B pt : Nat} {lv : Value} {sec cost : Nat} {pv : Value} {L : List Pr} (ht : TbV w pt lv sec cost pv) (hr : PairR w B pv L) (hL : L.length ≤ 100000) (hX : ∀ k, X k → ∃ cs t fr, w.heap[k]? = some (.cells cs t fr) ∧ t ≠ 5 ∧ t ≠ 66 ∧ t ≠ 79) (hz : ∀ x ∈ L, x.key.length ≤ 100000 ∧ x.val.length ≤ 100000) :
    Calls Try.prog 21 #[.pointer (some ⟨pt, 0, none⟩), .slice none 0 0, .slice none 0 0] w fun e w' => ∃ b St, e = .returned (.func (.func 39) #[] #[.pointer (some ⟨b, 0, none⟩)]) ∧ SeqV Fence.wide 2 Try.prog 39 #[.pointer (some ⟨b, 0, none⟩)] (ItE w'.heap.size) (fun A B => Bx X w'.heap.size A B) L St ∧ (∀ W, Bx X w'.heap.size w' W → St W) ∧ Below w.heap.size w w' := by
  refine (scan_gen ht hr hL).mono ?_
  rintro e w' ⟨b, o, rfl, hb, ho, hwb, hbel⟩
  have hXn : ∀ k, w.heap.size ≤ k → ¬ X k := fun k hk h => by
    obtain ⟨cs, t, fr, hh, -⟩ := hX k h
    have := lt_of_block hh
    omega
  have hXo : ∀ {v : Value} {l : List Nat}, OwnB w B v l → ∀ k, v.ownBlock = some k → ¬ X k := fun hv k e h => by
    obtain ⟨cs, t, fr, hh, h5, -⟩ := hX k h
    exact ownsRow_ne hv hh h5 k e rfl
  rcases ho.2 with ⟨rfl, h0⟩ | ⟨g, cap, cur, rfl, hg, hh, hc, hmx, hs, htk⟩
  · obtain rfl : L = [] := List.eq_nil_of_length_eq_zero h0
    refine ⟨b, _, rfl, itr_nilX X 2 b w'.heap.size, fun W hW => ?_, hbel⟩
    rw [hW.cell ⟨b, 0, none⟩ (lt_of_block hb) (hXn b hwb)]
    exact cell_of_row w' b 0 _ _ _ hb
  · have hcell : ∀ j v, j < L.length * 2 → (prC L)[j]? = some v → w'.cell? ⟨g, j, none⟩ = some v := by
      intro j v hj hv
      rw [cell_of_row _ _ _ _ 79 (0, 0) hh]
      have : cur.toList[j]? = some v := by
        rw [← htk, List.getElem?_take_of_lt (by omega)] at hv
        exact hv
      simpa using this
    have hlow : ∀ {v : Value} {l : List Nat}, OwnB w B v l → ∀ k, v.ownBlock = some k → k < w'.heap.size := fun h k e => Nat.lt_of_lt_of_le (own_lt h k e) hbel.size
    have hits : ItX X w' w'.heap.size b g cap L := by
      refine ⟨hb, fun i hi => ?_, fun i hi => ?_, ⟨lt_of_block hb, lt_of_block hh, Nat.le_refl _, fun i hi => ?_⟩, fun i hi => hz _ (List.getElem_mem hi), hXn b hwb, hXn g hg⟩
      · obtain ⟨g1, g2⟩ := prC_get L i hi
        exact ⟨hcell _ _ (by omega) g1, hcell _ _ (by omega) g2⟩
      · obtain ⟨o1, o2, o3, o4⟩ := hr.own _ (List.getElem_mem hi)
        exact ⟨(o1.rowB o3).below hbel, (o2.rowB o4).below hbel⟩
      · obtain ⟨o1, o2, o3, o4⟩ := hr.own _ (List.getElem_mem hi)
        exact ⟨fun k e => ⟨hlow o1 k e, hXo o1 k e⟩, fun k e => ⟨hlow o2 k e, hXo o2 k e⟩⟩
    exact ⟨b, _, rfl, itr_onX X 2 w'.heap.size b g cap L hL hc, fun W hW => hits.below hW, hbel⟩
end Go.Proofs.Ytmnbkhgogogeiaa
