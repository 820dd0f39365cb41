/-
  A log in memory; what calls leave alone.
-/
import Derived.Test.YtmnbkhgogogeiaaSec
namespace Go.Proofs.Ytmnbkhgogogeiaa
set_option linter.unusedVariables false
open Go.RowKit

/-- below N all blocks but a disk's lie as they lay -/
structure QB (N : Nat) (w w' : World) : Prop where
  size : w.heap.size ≤ w'.heap.size
  keep : ∀ k cs t fr, k < N → w.heap[k]? = some (.cells cs t fr) → t ≠ 62 → t ≠ 143 → t ≠ 145 → w'.heap[k]? = some (.cells cs t fr)
theorem QB.refl (N : Nat) (w : World) : QB N w w := ⟨Nat.le_refl _, fun _ _ _ _ _ h _ _ _ => h⟩
theorem QB.trans {N : Nat} {a b c : World} (h : QB N a b) (k : QB N b c) : QB N a c :=
  ⟨Nat.le_trans h.size k.size, fun i cs t fr hi hh h1 h2 h3 => k.keep i cs t fr hi (h.keep i cs t fr hi hh h1 h2 h3) h1 h2 h3⟩
theorem QB.mono {N N' : Nat} {a b : World} (h : QB N a b) (hn : N' ≤ N) : QB N' a b := ⟨h.size, fun k cs t fr hk => h.keep k cs t fr (by omega)⟩
theorem Below.qb {N : Nat} {a b : World} (h : Below N a b) : QB N a b := ⟨h.size, fun k cs t fr hk hh _ _ _ => by rw [h.block k hk, hh]⟩
theorem Beside.qb {N : Nat} {own : Nat → Prop} {a b : World} (h : Beside own a b) (ho : ∀ k, own k → N ≤ k) : QB N a b :=
  ⟨h.size, fun k cs t fr hk hh _ _ _ => by rw [h.block k (lt_of_block hh) (fun hc => by have := ho k hc; omega), hh]⟩
theorem QB.own {w w' : World} {B N : Nat} {v : Value} {l : List Nat} (h : QB N w w') (hN : w.heap.size ≤ N) (ho : OwnB w B v l) : OwnB w' B v l := by
  refine ⟨ho.1, ?_⟩
  rcases ho.2 with h2 | ⟨g, cap, cur, rfl, hg, hh, r⟩
  · exact .inl h2
  · exact .inr ⟨g, cap, cur, rfl, hg, h.keep g _ _ _ (Nat.lt_of_lt_of_le (lt_of_block hh) hN) hh (by decide) (by decide) (by decide), r⟩

/-- a disk between two calls: a call of it leaves all other blocks alone -/
theorem Held.qb {w w' : World} {p : Nat} {kv wv mv v : Value} {S S' : List (List Nat)} {W W' : List (Nat × List Nat)} {arm a2 : Nat} {down d2 : Bool} {e : Ending} (hd : Dk w (Mine p kv wv mv) p kv wv mv S W arm down)
    (h : DkEnd w (Mine p kv wv mv) p kv S' W' a2 d2 v e w') (N : Nat) : QB N w w' := by
  obtain ⟨wv', mv', O', -, -, hb, -⟩ := h
  refine ⟨hb.size, fun k cs t fr hk hh h1 h2 h3 => ?_⟩
  have ha : Alien w (.slice (some ⟨k, 0, none⟩) 0 0) := fun i hi => by
    obtain rfl : k = i := by simpa [Value.ownBlock] using hi
    exact ⟨cs, t, fr, hh, h1, h2, h3⟩
  rw [hb.block k (lt_of_block hh) (ha.not_mine hd k (by simp [Value.ownBlock])), hh]

theorem write_qb {B : Nat} {w0 w : World} {p : Nat} {kv : Value} {S : List (List Nat)} {W : List (Nat × List Nat)} (h : Held B w0 w p kv S W 0 false) (a : Nat) (ha : a < S.length) (v : Value) (b : List Nat) (hb : RowB w v b) (hbl : b.length = 64) (hv : Alien w v) (hwl : W.length < 1000000) (N : Nat) :
    Calls Try.prog 95 #[.pointer (some ⟨p, 0, none⟩), .int .i64 (a : Int), v] w fun e w' => e = .returned (.int .i64 0) ∧ Held B w0 w' p kv S (W ++ [(a, b)]) 0 false ∧ QB N w w' := by
  obtain ⟨wv, mv, hd, hl⟩ := h.dk
  refine (write_ok hd a ha v b hb hbl (hv.not_mine hd) hwl (by decide)).mono fun e w' he => ?_
  have h1 := Held.ended h.below h.base hl he
  exact ⟨h1.1, h1.2, Held.qb hd he N⟩
theorem flush_qb {B : Nat} {w0 w : World} {p : Nat} {kv : Value} {S : List (List Nat)} {W : List (Nat × List Nat)} (h : Held B w0 w p kv S W 0 false) (N : Nat) :
    Calls Try.prog 61 #[.pointer (some ⟨p, 0, none⟩)] w fun e w' => e = .returned (.int .i64 0) ∧ Held B w0 w' p kv (flushed S W) [] 0 false ∧ QB N w w' := by
  obtain ⟨wv, mv, hd, hl⟩ := h.dk
  refine (flush_ok hd (by decide) (show hitOf 0 = (0, false) from rfl)).mono fun e w' he => ?_
  have h1 := Held.ended h.below h.base hl he
  exact ⟨h1.1, h1.2, Held.qb hd he N⟩

structure Ent where
  place : Nat
  behind : Nat
  cells : Nat
  data : List Nat
structure LgS where
  ring : Nat
  version : Nat
  first : Nat
  hplace : Nat
  hbehind : Nat
  ents : List Ent
  place : Nat
  used : Nat
  last : Nat
  number : Nat

def ecell (x : Ent × Value) : List Value := [.int .i64 (x.1.place : Nat), .int .u64 (x.1.behind : Nat), .int .i64 (x.1.cells : Nat), x.2]
def ecells (L : List (Ent × Value)) : List Value := L.flatMap ecell
theorem ecells_length (L : List (Ent × Value)) : (ecells L).length = L.length * 4 := by
  induction L with
  | nil => rfl
  | cons x r ih =>
    have : ecells (x :: r) = ecell x ++ ecells r := by simp [ecells]
    rw [this, List.length_append, ih]
    simp [ecell]
    omega
theorem ecells_append (L M : List (Ent × Value)) : ecells (L ++ M) = ecells L ++ ecells M := by simp [ecells]

/-- the log's own block -/
def LgV (w : World) (p : Nat) (d ev : Value) (s : LgS) (down : Bool) : Prop :=
  w.heap[p]? = some (.cells #[d, .int .i64 (s.ring : Nat), .int .u64 (s.version : Nat), .int .u64 (s.first : Nat), .int .u64 (s.hplace : Nat), .int .u64 (s.hbehind : Nat), ev, .int .i64 (s.place : Nat), .int .i64 (s.used : Nat), .int .u64 (s.last : Nat), .int .u64 (s.number : Nat), .bool down] 91 (0, 0))
theorem LgV.cells {w : World} {p : Nat} {d ev : Value} {s : LgS} {down : Bool} (h : LgV w p d ev s down) :
    w.cell? ⟨p, 0, none⟩ = some d ∧ w.cell? ⟨p, 1, none⟩ = some (.int .i64 (s.ring : Nat)) ∧ w.cell? ⟨p, 2, none⟩ = some (.int .u64 (s.version : Nat)) ∧ w.cell? ⟨p, 3, none⟩ = some (.int .u64 (s.first : Nat)) ∧
    w.cell? ⟨p, 4, none⟩ = some (.int .u64 (s.hplace : Nat)) ∧ w.cell? ⟨p, 5, none⟩ = some (.int .u64 (s.hbehind : Nat)) ∧ w.cell? ⟨p, 6, none⟩ = some ev ∧ w.cell? ⟨p, 7, none⟩ = some (.int .i64 (s.place : Nat)) ∧
    w.cell? ⟨p, 8, none⟩ = some (.int .i64 (s.used : Nat)) ∧ w.cell? ⟨p, 9, none⟩ = some (.int .u64 (s.last : Nat)) ∧ w.cell? ⟨p, 10, none⟩ = some (.int .u64 (s.number : Nat)) ∧ w.cell? ⟨p, 11, none⟩ = some (.bool down) := by
  have fl := fun j => cell_of_row w p j _ _ _ h
  exact ⟨fl 0, fl 1, fl 2, fl 3, fl 4, fl 5, fl 6, fl 7, fl 8, fl 9, fl 10, fl 11⟩
theorem LgV.free {w : World} {p : Nat} {d ev : Value} {s : LgS} {down : Bool} (h : LgV w p d ev s down) (j : Nat) : w.frozen? ⟨p, j, none⟩ = false := by
  unfold LgV at h
  simp [World.frozen?, h]
theorem LgV.qb {w w' : World} {p N : Nat} {d ev : Value} {s : LgS} {down : Bool} (h : LgV w p d ev s down) (hq : QB N w w') (hN : w.heap.size ≤ N) : LgV w' p d ev s down :=
  hq.keep p _ _ _ (Nat.lt_of_lt_of_le (lt_of_block h) hN) h (by decide) (by decide) (by decide)

/-- the entries: their row, and a row of bytes for each -/
structure EntR (w : World) (B : Nat) (ev : Value) (L : List (Ent × Value)) : Prop where
  row : w.ownsRow B 98 4 ev L.length (ecells L)
  own : ∀ x ∈ L, OwnB w B x.2 x.1.data
theorem EntR.qb {w w' : World} {B N : Nat} {ev : Value} {L : List (Ent × Value)} (h : EntR w B ev L) (hq : QB N w w') (hN : w.heap.size ≤ N) : EntR w' B ev L := by
  refine ⟨⟨h.row.1, ?_⟩, fun x hx => hq.own hN (h.own x hx)⟩
  rcases h.row.2 with h2 | ⟨g, cap, cur, e, hg, hh, r⟩
  · exact .inl h2
  · exact .inr ⟨g, cap, cur, e, hg, hq.keep g _ _ _ (Nat.lt_of_lt_of_le (lt_of_block hh) hN) hh (by decide) (by decide) (by decide), r⟩

/-- a log and its disk between two calls -/
structure Lg (B : Nat) (w0 w : World) (pl pd : Nat) (kv : Value) (s : LgS) (S : List (List Nat)) (W : List (Nat × List Nat)) : Prop where
  disk : Held B w0 w pd kv S W 0 false
  log : ∃ ev L, LgV w pl (.pointer (some ⟨pd, 0, none⟩)) ev s false ∧ EntR w B ev L ∧ L.map (·.1) = s.ents
  base : B ≤ pl

/-- a sector is sealed and written -/
theorem row8_rowB {w : World} {g : Nat} {l : List Nat} (h : Row8 w g l) (hl : l.length = 64) (h256 : ∀ n ∈ l, n < 256) : RowB w (.slice (some ⟨g, 0, none⟩) 64 64) l := by
  refine ⟨_, _, _, rfl, hl, Nat.le_refl _, by decide, h256, by simp, fun x hx i hi => ?_⟩
  obtain rfl := Option.some.inj hx
  rw [Addr.add_lit, Nat.zero_add]
  exact h.cell i hi
theorem row8_alien {w : World} {g n c : Nat} {l : List Nat} (h : Row8 w g l) : Alien w (.slice (some ⟨g, 0, none⟩) n c) := by
  intro k hk
  obtain rfl : g = k := by simpa [Value.ownBlock] using hk
  exact ⟨_, _, _, h, by decide, by decide, by decide⟩
theorem mkB_lt {o : Nat} (h : o < 256) : mkB o < 256 := by unfold mkB; split <;> omega
theorem sealL_lt {l old : List Nat} (h : ∀ n ∈ l, n < 256) (ho : ∀ n ∈ old, n < 256) : ∀ n ∈ sealL l old, n < 256 := by
  have hm : mkB (old.getD 63 0) < 256 := by
    refine mkB_lt ?_
    rw [List.getD_eq_getElem?_getD]
    cases hq : old[63]? with
    | none => simp
    | some x => simpa using ho x (List.mem_of_getElem? hq)
  intro n hn
  unfold sealL at hn
  rcases List.mem_or_eq_of_mem_set hn with hn | rfl
  · rcases List.mem_or_eq_of_mem_set hn with hn | rfl
    · exact h n hn
    · exact hm
  · exact hm
end Go.Proofs.Ytmnbkhgogogeiaa
