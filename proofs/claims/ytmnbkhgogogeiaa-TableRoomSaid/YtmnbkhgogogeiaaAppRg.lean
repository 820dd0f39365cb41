/-
  A record is appended: what is written.
-/
import Derived.Test.YtmnbkhgogogeiaaRg10
import Derived.Deep.RegionHeld
import Derived.Lib.MinMax
import Derived.Deep.RegionHeld3
namespace Go.Proofs.Ytmnbkhgogogeiaa
set_option linter.unusedVariables false
open Go.RowKit

def piece (data : List Nat) (k : Nat) : List Nat := (data.drop (k * 40)).take 40
def lastK (s : LgS) : Nat → Nat
  | 0 => s.last
  | k + 1 => s.number + k
def atK (s : LgS) (k : Nat) : Nat := 2 + (s.place + k) % s.ring
/-- what is written for the first k pieces of a record -/
def appW (s : LgS) (data : List Nat) (S : List (List Nat)) (W : List (Nat × List Nat)) : Nat → List (Nat × List Nat)
  | 0 => W
  | k + 1 => appW s data S W k ++ [(atK s k, sealL (cellL (s.number + k) (lastK s k) data.length k (piece data k)) (shown S (appW s data S W k) (atK s k)))]
theorem appW_length (s : LgS) (data : List Nat) (S : List (List Nat)) (W : List (Nat × List Nat)) (k : Nat) : (appW s data S W k).length = W.length + k := by
  induction k with
  | zero => rfl
  | succ k ih => simp [appW, ih]; omega
theorem piece_le (data : List Nat) (k : Nat) : (piece data k).length ≤ 40 := by unfold piece; simp; omega
theorem cellL_lt (a b c d : Nat) (data : List Nat) (h : ∀ n ∈ data, n < 256) : ∀ n ∈ cellL a b c d data, n < 256 := by
  have hb : ∀ n v, ∀ x ∈ be n v, x < 256 := by
    intro n v
    induction n with
    | zero => simp [be]
    | succ n ih =>
      intro x hx
      rcases List.mem_cons.1 hx with rfl | hx
      · omega
      · exact ih x hx
  have hp : ∀ (l : List Nat) (o : Nat) (d : List Nat), (∀ n ∈ l, n < 256) → (∀ n ∈ d, n < 256) → ∀ n ∈ putAt l o d, n < 256 := by
    intro l o d hl hd n hn
    unfold putAt at hn
    rcases List.mem_append.1 hn with hn | hn
    · rcases List.mem_append.1 hn with hn | hn
      · exact hl n (List.mem_of_mem_take hn)
      · exact hd n hn
    · exact hl n (List.mem_of_mem_drop hn)
  unfold cellL
  refine hp _ _ _ (hp _ _ _ (hp _ _ _ (hp _ _ _ (hp _ _ _ ?_ (hb _ _)) (hb _ _)) (hb _ _)) (hb _ _)) h
  intro n hn
  have := List.eq_of_mem_replicate hn
  omega

/-- a slice of bytes that no disk's or log's call turns -/
def RowK (B : Nat) (w : World) (v : Value) (l : List Nat) : Prop :=
  RowB w v l ∧ ∀ a len cap, v = .slice (some a) len cap → 0 < len → a.block < B ∨ ∃ cs t fr, w.heap[a.block]? = some (.cells cs t fr) ∧ t ≠ 62 ∧ t ≠ 143 ∧ t ≠ 145 ∧ t ≠ 91 ∧ t ≠ 98
theorem RowK.step {B : Nat} {w w' : World} {v : Value} {l : List Nat} (h : RowK B w v l) (hb : ∀ k, k < B → w'.heap[k]? = w.heap[k]?) (hq : QB w.heap.size w w') : RowK B w' v l := by
  obtain ⟨⟨a, len, cap, rfl, hlen, hcap, hm, h256, hn, hcell⟩, hk⟩ := h
  have hblk : ∀ x, a = some x → 0 < len → w'.heap[x.block]? = w.heap[x.block]? := by
    rintro x rfl h0
    rcases hk x len cap rfl h0 with h1 | ⟨cs, t, fr, hh, h1, h2, h3, _⟩
    · exact hb _ h1
    · rw [hq.keep _ _ _ _ (lt_of_block hh) hh h1 h2 h3, hh]
  refine ⟨⟨a, len, cap, rfl, hlen, hcap, hm, h256, hn, fun x hx i hi => ?_⟩, fun x l2 c2 e h0 => ?_⟩
  · have h1 := hcell x hx i hi
    rw [World.cell?_of_block (w := w) (a := x.add i) (by rw [show (x.add i).block = x.block by unfold Addr.add; split <;> rfl]; exact hblk x hx (by omega))]
    exact h1
  · obtain ⟨rfl, rfl, rfl⟩ : a = some x ∧ len = l2 ∧ cap = c2 := by simpa using e
    rcases hk x len cap rfl h0 with h1 | ⟨cs, t, fr, hh, h1⟩
    · exact .inl h1
    · exact .inr ⟨cs, t, fr, by rw [hblk x rfl h0, hh], h1⟩
theorem OwnB.rowK {w : World} {B C : Nat} {v : Value} {l : List Nat} (h : OwnB w C v l) (h256 : ∀ n ∈ l, n < 256) : RowK B w v l := by
  refine ⟨h.rowB h256, fun a len cap e _ => .inr ?_⟩
  rcases h.2 with ⟨e2, _⟩ | ⟨g, cap', cur, e2, _, hh, _⟩
  · rw [e2] at e; simp at e
  · rw [e2] at e
    obtain rfl : (⟨g, 0, none⟩ : Addr) = a := by simpa using (Value.slice.inj e).1
    exact ⟨cur, 5, (0, 0), hh, by decide, by decide, by decide, by decide, by decide⟩

/-- below all blocks but a disk's and a log's lie as they lay -/
structure LQ (w w' : World) : Prop where
  size : w.heap.size ≤ w'.heap.size
  keep : ∀ (k : Nat) cs t fr, w.heap[k]? = some (.cells cs t fr) → t ≠ 62 → t ≠ 143 → t ≠ 145 → t ≠ 91 → t ≠ 98 → w'.heap[k]? = some (.cells cs t fr)
theorem LQ.refl (w : World) : LQ w w := ⟨Nat.le_refl _, fun _ _ _ _ h _ _ _ _ _ => h⟩
theorem LQ.trans {a b c : World} (h : LQ a b) (k : LQ b c) : LQ a c := ⟨Nat.le_trans h.size k.size, fun i cs t fr hh h1 h2 h3 h4 h5 => k.keep i cs t fr (h.keep i cs t fr hh h1 h2 h3 h4 h5) h1 h2 h3 h4 h5⟩
theorem QB.lq {N : Nat} {w w' : World} (h : QB N w w') (hN : w.heap.size ≤ N) : LQ w w' := ⟨h.size, fun k cs t fr hh h1 h2 h3 _ _ => h.keep k cs t fr (Nat.lt_of_lt_of_le (lt_of_block hh) hN) hh h1 h2 h3⟩
theorem RowK.lq {B : Nat} {w w' : World} {v : Value} {l : List Nat} (h : RowK B w v l) (hb : ∀ k, k < B → w'.heap[k]? = w.heap[k]?) (hq : LQ w w') : RowK B w' v l := by
  obtain ⟨⟨a, len, cap, rfl, hlen, hcap, hm, h256, hn, hcell⟩, hk⟩ := h
  have hblk : ∀ x, a = some x → 0 < len → w'.heap[x.block]? = w.heap[x.block]? := by
    rintro x rfl h0
    rcases hk x len cap rfl h0 with h1 | ⟨cs, t, fr, hh, h1, h2, h3, h4, h5⟩
    · exact hb _ h1
    · rw [hq.keep _ _ _ _ hh h1 h2 h3 h4 h5, hh]
  refine ⟨⟨a, len, cap, rfl, hlen, hcap, hm, h256, hn, fun x hx i hi => ?_⟩, fun x l2 c2 e h0 => ?_⟩
  · have h1 := hcell x hx i hi
    rw [World.cell?_of_block (w := w) (a := x.add i) (by rw [show (x.add i).block = x.block by unfold Addr.add; split <;> rfl]; exact hblk x hx (by omega))]
    exact h1
  · obtain ⟨rfl, rfl, rfl⟩ : a = some x ∧ len = l2 ∧ cap = c2 := by simpa using e
    rcases hk x len cap rfl h0 with h1 | ⟨cs, t, fr, hh, h1⟩
    · exact .inl h1
    · exact .inr ⟨cs, t, fr, by rw [hblk x rfl h0, hh], h1⟩

def appS (s : LgS) (data : List Nat) : LgS := { s with ents := s.ents ++ [⟨s.place, s.last, cellsN data.length, data⟩], place := (s.place + cellsN data.length) % s.ring, used := s.used + cellsN data.length, last := lastK s (cellsN data.length), number := s.number + cellsN data.length }
/-- a log that may be spoken to -/
structure Fit (s : LgS) (S : List (List Nat)) (W : List (Nat × List Nat)) : Prop where
  disk : S.length = s.ring + 2
  ring : 0 < s.ring
  place : s.place < s.ring
  number : s.number ≤ 1000000000000
  last : s.last ≤ 1000000000000
  first : s.first ≤ 1000000000000
  version : s.version ≤ 1000000000000
  ents : s.ents.length ≤ 65536
  waits : W.length ≤ 900000
  used : s.used ≤ s.ring
  bound : s.ring ≤ 65534

theorem Lg.down {B : Nat} {w0 w : World} {pl pd : Nat} {kv : Value} {s : LgS} {S : List (List Nat)} {W : List (Nat × List Nat)} (h : Lg B w0 w pl pd kv s S W) : Calls Try.prog 46 #[.pointer (some ⟨pd, 0, none⟩)] w fun e w' => e = .returned (.bool false) ∧ w = w' := by
  obtain ⟨wv, mv, hd, hl⟩ := h.disk.dk
  exact down_ok hd

theorem Held.beside2 {B : Nat} {w0 w w' : World} {p : Nat} {kv : Value} {S : List (List Nat)} {W : List (Nat × List Nat)} {arm : Nat} {down : Bool} {own : Nat → Prop} (h : Held B w0 w p kv S W arm down) (hb : Beside own w w')
    (ha : ∀ k, own k → ∃ cs t fr, w.heap[k]? = some (.cells cs t fr) ∧ t ≠ 62 ∧ t ≠ 143 ∧ t ≠ 145) (hB : ∀ k, own k → B ≤ k) : Held B w0 w' p kv S W arm down := by
  obtain ⟨wv, mv, hd, hl⟩ := h.dk
  have hs := h.below.size
  have hb0 := h.base
  refine ⟨⟨wv, mv, hd.beside hb (fun k hk ho => ?_), hl.mono hb.size⟩, h.below.trans (hb.below hB (by omega)), hb0⟩
  have hal : Alien w (.slice (some ⟨k, 0, none⟩) 0 0) := fun i hi => by
    obtain rfl : k = i := by simpa [Value.ownBlock] using hi
    exact ha k ho
  exact hal.not_mine hd k (by simp [Value.ownBlock]) hk
theorem LQ.beside {a b : World} {own : Nat → Prop} (hb : Beside own a b) (h : ∀ k, own k → ∀ cs t fr, a.heap[k]? = some (.cells cs t fr) → t = 91 ∨ t = 98) : LQ a b :=
  ⟨hb.size, fun k cs t fr hh h1 h2 h3 h4 h5 => by
    rw [hb.block k (lt_of_block hh) (fun ho => by rcases h k ho cs t fr hh with e | e; exact h4 e; exact h5 e), hh]⟩
theorem LgV.own_type {w : World} {pl : Nat} {d ev ev2 : Value} {s : LgS} {down : Bool} {B : Nat} {L : List (Ent × Value)} (h : LgV w pl d ev2 s down) (he : EntR w B ev L) : ∀ k, (k = pl ∨ ev.ownBlock = some k) → ∃ cs t fr, w.heap[k]? = some (.cells cs t fr) ∧ (t = 91 ∨ t = 98) := by
  rintro k (rfl | hk)
  · exact ⟨_, _, _, h, .inl rfl⟩
  · rcases he.row.2 with ⟨e, _⟩ | ⟨g, cap, cur, e, _, hh, _⟩
    · rw [e] at hk; cases hk
    · rw [e] at hk
      obtain rfl : g = k := by simpa [Value.ownBlock] using hk
      exact ⟨_, _, _, hh, .inr rfl⟩
theorem wrap_small (a : Int) (h0 : 0 ≤ a) (h1 : a ≤ 1000000000) : IntKind.i64.wrap a = a := IntWalk.i64_in _ ⟨by omega, by omega⟩
theorem wrap_two (m : Nat) (h : m ≤ 1000000) : IntKind.i64.wrap ((2 + m : Nat) : Int) = ((2 + m : Nat) : Int) := wrap_small _ (by omega) (by omega)
theorem modCast (a b r m : Nat) (h : (a + b) % r = m) : ((a : Int) + (b : Int)).tmod (r : Int) = (m : Int) := by
  rw [Int.tmod_eq_emod_of_nonneg (by omega), ← h, ← Int.natCast_add]
  exact (Int.natCast_emod _ _).symm
theorem rowB_part {w : World} {a : Option Addr} {len cap : Nat} {l : List Nat} (h : RowB w (.slice a len cap) l) (lo hi : Nat) (h1 : lo ≤ hi) (h2 : hi ≤ l.length) :
    RowB w (.slice (Option.map (fun x => x.add lo) a) (hi - lo) (cap - lo)) ((l.take hi).drop lo) ∧ (lo = cap → RowB w (.slice a 0 0) ((l.take hi).drop lo)) := by
  obtain ⟨a', len', cap', e, k1, k2, k3, k4, k5, k6⟩ := h
  simp only [Value.slice.injEq] at e
  obtain ⟨rfl, rfl, rfl⟩ := e
  have hlm : ((l.take hi).drop lo).length = hi - lo := by simp; omega
  constructor
  · refine ⟨_, _, _, rfl, hlm, by omega, by omega, fun n hn => k4 n (List.mem_of_mem_take (List.mem_of_mem_drop hn)), fun e => ?_, fun x hx i hi2 => ?_⟩
    · have := k5 (by cases a <;> simp_all)
      omega
    · obtain ⟨y, hy, rfl⟩ := Option.map_eq_some_iff.1 hx
      have hi3 : lo + i < l.length := by rw [hlm] at hi2; omega
      have := k6 y hy (lo + i) hi3
      rw [Addr.add_add] at *
      rw [this]
      simp
  · intro hc
    have : hi = lo := by omega
    subst this
    have e0 : (l.take hi).drop hi = [] := List.eq_nil_of_length_eq_zero (by rw [hlm]; omega)
    rw [e0]
    exact ⟨_, _, _, rfl, by simp, by omega, by omega, by simp, fun _ => ⟨by omega, rfl⟩, fun x hx i hi2 => by simp at hi2⟩
theorem piece_eq (data : List Nat) (k hi : Nat) (h : hi = min ((k + 1) * 40) data.length) : (data.take hi).drop (k * 40) = piece data k := by
  unfold piece
  rw [List.drop_take]
  by_cases h4 : (k + 1) * 40 ≤ data.length
  · have : hi - k * 40 = 40 := by omega
    rw [this]
  · rw [List.take_of_length_le (by simp; omega), List.take_of_length_le (by simp; omega)]
theorem frozen_of_row (w : World) (g j : Nat) (cs : Array Value) (t : TypeId) (h : w.heap[g]? = some (.cells cs t (0, 0))) : w.frozen? ⟨g, j, none⟩ = false := by simp [World.frozen?, h]
theorem set4_block {w : World} {q : Nat} {a b c d : Value} {t : TypeId} (h : w.heap[q]? = some (.cells #[a, b, c, d] t (0, 0))) (x y z u : Value) :
    ((((w.setCell ⟨q, 0, none⟩ x).setCell ⟨q, 1, none⟩ y).setCell ⟨q, 2, none⟩ z).setCell ⟨q, 3, none⟩ u).heap[q]? = some (.cells #[x, y, z, u] t (0, 0)) := by
  have h1 := heap_setCell_same w q 0 _ t x h
  have h2 := heap_setCell_same _ q 1 _ t y h1
  have h3 := heap_setCell_same _ q 2 _ t z h2
  exact heap_setCell_same _ q 3 _ t u h3
theorem set4_beside (w : World) (q : Nat) (x y z u : Value) : Beside (fun k => k = q) w ((((w.setCell ⟨q, 0, none⟩ x).setCell ⟨q, 1, none⟩ y).setCell ⟨q, 2, none⟩ z).setCell ⟨q, 3, none⟩ u) :=
  ((((Beside.refl (fun k => k = q) w).setCell (p := ⟨q, 0, none⟩) (.inl rfl) x).setCell (p := ⟨q, 1, none⟩) (.inl rfl) y).setCell (p := ⟨q, 2, none⟩) (.inl rfl) z).setCell (p := ⟨q, 3, none⟩) (.inl rfl) u
theorem owns_mono {w : World} {B C : Nat} {v : Value} {l : List Nat} (h : OwnB w B v l) (hc : C ≤ B) : OwnB w C v l := by
  refine ⟨h.1, ?_⟩
  rcases h.2 with h2 | ⟨g, cap, cur, e, hg, r⟩
  · exact .inl h2
  · exact .inr ⟨g, cap, cur, e, Nat.le_trans hc hg, r⟩
set_option maxRecDepth 100000 in
set_option maxHeartbeats 4000000 in
theorem append_any {B : Nat} {w0 w : World} {pl pd : Nat} {kv : Value} {s : LgS} {S : List (List Nat)} {W : List (Nat × List Nat)} (h : Lg B w0 w pl pd kv s S W) (hf : Fit s S W) {v : Value} {data : List Nat} (hv : RowK B w v data) (hl : data.length ≤ 65536) (hroom : s.used + cellsN data.length ≤ s.ring) :
    Calls Try.prog 63 #[.pointer (some ⟨pl, 0, none⟩), v] w fun e w' => e = .returned (.int .i64 0) ∧ Lg B w0 w' pl pd kv (appS s data) S (appW s data S W (cellsN data.length)) ∧ LQ w w' := by
  obtain ⟨ev, L, hlg, hent, hLs⟩ := h.log
  have hB : B ≤ w.heap.size := Nat.le_trans h.disk.base h.disk.below.size
  obtain ⟨va, len, vc, rfl, hlen, hcap, hm, h256, hn, -⟩ := id hv.1
  have HV := Lib.hid hv
  have HH := Lib.hid h
  have HF := Lib.hid hf
  have HNO := Lib.hid (none_ok hlg)
  have HDO := Lib.hid h.down
  have HCN := Lib.hid (cells_any len (by omega))
  have HCL := Lib.hid (bclone_any _ data w hv.1 (by omega))
  have HLG := Lib.hid hlg
  have HEN := Lib.hid hent
  have HLS := Lib.hid hLs
  have HLE := Lib.hid hlen
  have H256 := Lib.hid h256
  obtain ⟨c0, c1, c2, c3, c4, c5, c6, c7, c8, c9, c10, c11⟩ := hlg.cells
  have g1 : ¬ (65536 : Int) < (len : Int) := by omega
  clear h hf hv hlg hent hLs hn h256 hlen
  go_enter Try.func63, Try.ntmps63
  go_upto_region 7 with (first
    | (go_at_call 60; refine HNO.out.mono ?_; rintro e w' ⟨rfl, rfl⟩)
    | (go_at_call 46; refine HDO.out.mono ?_; rintro e w' ⟨rfl, rfl⟩))
  have HDR := Lib.hid ((Below.refl w.heap.size w).drew)
  have c7d : w.drew.cell? ⟨pl, 7, none⟩ = some (.int .i64 (s.place : Nat)) := c7
  have c9d : w.drew.cell? ⟨pl, 9, none⟩ = some (.int .u64 (s.last : Nat)) := c9
  have HK : Hid (∀ W2, Below w.heap.size w W2 → W2.cell? ⟨pl, 7, none⟩ = some (.int .i64 (s.place : Nat)) ∧ W2.cell? ⟨pl, 9, none⟩ = some (.int .u64 (s.last : Nat))) := Lib.hid fun W2 h2 => by
    have := (HLG.out.qb (Below.qb h2) (Nat.le_refl _)).cells
    exact ⟨this.2.2.2.2.2.2.2.1, this.2.2.2.2.2.2.2.2.2.1⟩
  have HDA : Hid (Below w.heap.size w (w.alloc (.cells #[.int .i64 0, .int .u64 0, .int .i64 0, .slice none 0 0] 98)).drew) := Lib.hid ((Below.refl w.heap.size w).alloc (Nat.le_refl _) _).drew
  have HBC : Hid (∀ W2, Below w.heap.size w W2 → Calls Try.prog 37 #[.slice va len vc] W2 fun e w' => ∃ oa oc, e = .returned (.slice oa data.length oc) ∧ OwnB w' w.heap.size (.slice oa data.length oc) data ∧ Below W2.heap.size W2 w') := Lib.hid fun W2 h2 => by
    refine (bclone_any _ data W2 (HV.out.1.below h2) (by have := HLE.out; omega)).mono ?_
    rintro e w' ⟨o, rfl, ho, hb⟩
    obtain ⟨oa, oc, rfl⟩ := ho.shape
    exact ⟨oa, oc, rfl, owns_mono ho h2.size, hb⟩
  have hpw : ¬ (pl = w.heap.size) := fun e => by have := lt_of_block HLG.out; omega
  have hpw2 : ¬ (w.heap.size = pl) := fun e => hpw e.symm
  have k0 := HK.out _ HDR.out
  go_cut [5] (fun u wx => ∃ q o, u = .pointer (some ⟨q, 0, none⟩) ∧ wx.heap[q]? = some (.cells #[.int .i64 (s.place : Nat), .int .u64 (s.last : Nat), .int .i64 (cellsN len : Nat), o] 98 (0, 0)) ∧ OwnB wx w.heap.size o data ∧ Below w.heap.size w wx ∧ w.heap.size ≤ q)
  case first =>
    go_region_held3 (fun w' => w'.cell? ⟨pl, 7, none⟩ = some (.int .i64 (s.place : Nat)) ∧ w'.cell? ⟨pl, 9, none⟩ = some (.int .u64 (s.last : Nat)))
      (first | with_reducible exact kb | with_reducible exact k0 | go_keep)
      (first
        | (go_at_call 91; refine (cells_any len (by omega) _).mono ?_; rintro e w' ⟨rfl, rfl⟩; have kb := k0)
        | (go_at_call 37; refine (HBC.out _ (by with_reducible exact HDR.out)).mono ?_; rintro e w2 ⟨oa, oc, rfl, ho, hb⟩; have HO := Lib.hid ho; have HB2 := Lib.hid (HDR.out.trans hb); have kb := HK.out _ HB2.out; clear ho hb)
        | (go_at_call 37; refine (HBC.out _ (by with_reducible exact HDA.out)).mono ?_; rintro e w2 ⟨oa, oc, rfl, ho, hb⟩; have HO := Lib.hid ho; have HB2 := Lib.hid (HDA.out.trans (hb.mono HDA.out.size)); have kb := HK.out _ HB2.out
           have hbx : w2.heap[w.heap.size]? = some (.cells #[.int .i64 0, .int .u64 0, .int .i64 0, .slice none 0 0] 98 (0, 0)) := (hb.block w.heap.size (by show _ < (w.heap.push _).size; simp)).trans (heap_alloc_new w _)
           have z0 := cell_of_row w2 w.heap.size 0 _ _ _ hbx
           have z1 := cell_of_row w2 w.heap.size 1 _ _ _ hbx
           have z2 := cell_of_row w2 w.heap.size 2 _ _ _ hbx
           have z3 := cell_of_row w2 w.heap.size 3 _ _ _ hbx
           simp only [List.getElem?_toArray, List.getElem?_cons_zero, List.getElem?_cons_succ] at z0 z1 z2 z3
           have zf := fun j => frozen_of_row w2 w.heap.size j _ _ hbx
           have zf0 := zf 0
           have zf1 := zf 1
           have zf2 := zf 2
           have zf3 := zf 3
           have HBXX := Lib.hid hbx
           clear ho hb zf hbx))
    all_goals
      go_wp2_with fail
      go_meet
      first
        | (have e4 := set4_block HBXX.out (.int .i64 (s.place : Nat)) (.int .u64 (s.last : Nat)) (.int .i64 (cellsN len : Nat)) (.slice oa data.length oc)
           have b4 := set4_beside w2 w.heap.size (.int .i64 (s.place : Nat)) (.int .u64 (s.last : Nat)) (.int .i64 (cellsN len : Nat)) (.slice oa data.length oc)
           have o4 := ownsRow_beside HO.out b4 (fun k hk e => ownsRow_ne HO.out HBXX.out (by decide) k hk e)
           have l4 := HB2.out.trans (b4.below (fun k hk => by rw [hk]; exact Nat.le_refl _) HB2.out.size)
           exact ⟨w.heap.size, .slice oa data.length oc, rfl, e4, o4, l4, Nat.le_refl _⟩)
        | (have e4 := heap_alloc_new w2 (.cells #[.int .i64 (s.place : Nat), .int .u64 (s.last : Nat), .int .i64 (cellsN len : Nat), .slice oa data.length oc] 98)
           exact ⟨w2.heap.size, .slice oa data.length oc, rfl, e4, HO.out.alloc _, HB2.out.alloc HB2.out.size _, HB2.out.size⟩)
  case rest =>
    obtain ⟨q, o, rfl, hbx, hown, hbel, hqs⟩ := hcut
    have HQL := Lib.hid (HLG.out.qb (Below.qb hbel) (Nat.le_refl _))
    have HQE := Lib.hid (HEN.out.qb (Below.qb hbel) (Nat.le_refl _))
    have HDK := Lib.hid (HH.out.disk.below' hbel)
    have HVC := Lib.hid (HV.out.step (fun k hk => hbel.block k (by omega)) (Below.qb hbel))
    have HBX := Lib.hid hbx
    have HOW := Lib.hid hown
    have HBL := Lib.hid hbel
    have HQS := Lib.hid hqs
    obtain ⟨oa, oc, rfl⟩ : ∃ oa oc, o = .slice oa data.length oc := hown.shape
    obtain ⟨-, d1, -, -, -, -, -, d7, d8, d9, d10, -⟩ := HQL.out.cells
    have b2 : wc.cell? ⟨q, 2, none⟩ = some (.int .i64 (cellsN len : Nat)) := cell_of_row wc q 2 _ _ _ hbx
    have hroom2 : ¬ (s.ring : Int) < (s.used : Int) + (cellsN len : Int) := by rw [HLE.out] at hroom; omega
    have hub : s.used ≤ 65534 := Nat.le_trans HF.out.used HF.out.bound
    have hnb : cellsN len ≤ 65534 := by have := HF.out.bound; rw [HLE.out] at hroom; omega
    clear hbx hown hbel hqs k0 hroom c0 c1 c2 c3 c4 c5 c6 c7 c8 c9 c10 c11 c7d c9d HDA HBC HK HDR hpw hpw2 HNO HDO HCN HCL
    generalize hcn : cellsN len = n at *
    go_wp2_with go_region
    go_loopw [65, 6, 7] (fun i la nu wr => ∃ k : Nat, k ≤ n ∧ i = .int .i64 (k : Nat) ∧ la = .int .u64 (lastK s k : Nat) ∧ nu = .int .u64 (s.number + k : Nat) ∧ Held B w0 wr pd kv S (appW s data S W k) 0 false ∧ QB wc.heap.size wc wr) (fun i _ _ _ => n - (RowKit.intOf i).toNat)
    case atStart => exact ⟨0, Nat.zero_le _, rfl, rfl, rfl, HDK.out.below' ((Below.refl _ _).drew.drew), ⟨Nat.le_refl _, fun _ _ _ _ _ h _ _ _ => h⟩⟩
    case round =>
      obtain ⟨k, hk, rfl, rfl, rfl, hdr, hqr⟩ := hrel
      have HDR := Lib.hid hdr
      have HQR := Lib.hid hqr
      by_cases hkn : k < n
      · have hkz : (k : Int) < (n : Int) := by omega
        have hVR := HVC.out.step (w' := wr) (fun i hi => (hdr.below.block i hi).trans (HDK.out.below.block i hi).symm) hqr
        have HVR := Lib.hid hVR
        have hk40 : k * 40 ≤ len := by
          have : k < cellsN len := by rw [hcn]; exact hkn
          unfold cellsN at this
          omega
        obtain ⟨p, hp⟩ : ∃ p, k * 40 = p := ⟨_, rfl⟩
        obtain ⟨h2, hh2⟩ : ∃ h2, min ((k + 1) * 40) len = h2 := ⟨_, rfl⟩
        have e1 : (k : Int) * 40 = (p : Int) := by omega
        have e2 : min (((k : Int) + 1) * 40) (len : Int) = (h2 : Int) := by omega
        have e3 : (p : Int) ≤ (h2 : Int) := by omega
        have e4 : h2 ≤ vc := by omega
        have hkb : (k : Int) + 1 ≤ 65536 := by omega
        have hkb0 : (0 : Int) ≤ (k : Int) := by omega
        have HPR := Lib.hid (rowB_part hVR.1 p h2 (by omega) (by rw [HLE.out]; omega))
        have HPE : Hid ((data.take h2).drop p = piece data k) := Lib.hid (by rw [← hp]; exact piece_eq data k h2 (by rw [HLE.out]; exact hh2.symm))
        have HKN := Lib.hid hkn
        clear hVR hdr hqr hp hh2 hk40 b2 d1 d7 d8 d9 d10 hk
        go_upto_region 14 with (fail)
        go_cut [9] (fun u wx => RowB wx u (piece data k) ∧ wx = wr)
        case first =>
          by_cases hvp : vc = p
          · have HP0 := Lib.hid (HPR.out.2 hvp.symm)
            subst hvp
            go_wp2_with fail
            go_meet
            rw [← HPE.out]
            exact ⟨HP0.out, rfl⟩
          · go_wp2_with fail
            go_meet
            rw [← HPE.out]
            exact ⟨HPR.out.1, rfl⟩
        case rest =>
          obtain ⟨hpc, hwr⟩ := hcut
          have hwr := hwr.symm
          subst hwr
          obtain ⟨pa, pn, pc, rfl, -⟩ := id hpc
          have HPC := Lib.hid hpc
          have hnb2 : s.number ≤ 1000000000000 := HF.out.number
          have hlk : lastK s k ≤ 1000000100000 := by
            have h1 := HF.out.last
            cases k with
            | zero => exact Nat.le_trans h1 (by decide)
            | succ j => simp only [lastK]; omega
          obtain ⟨nu, hnu⟩ : ∃ nu, s.number + k = nu := ⟨_, rfl⟩
          obtain ⟨la, hla⟩ : ∃ la, lastK s k = la := ⟨_, rfl⟩
          rw [hnu, hla]
          rw [hla] at hlk
          have hnub : nu ≤ 1000000100000 := by omega
          have HNU := Lib.hid hnu
          have HLA := Lib.hid hla
          obtain ⟨X, hX, hXb, hbX⟩ : ∃ X, X = wr.alloc (.cells #[.int .u64 (nu : Nat), .int .u64 (la : Nat), .int .u64 (len : Nat), .int .u64 (k : Nat), .slice pa pn pc] 128) ∧ X.heap[wr.heap.size]? = some (.cells #[.int .u64 (nu : Nat), .int .u64 (la : Nat), .int .u64 (len : Nat), .int .u64 (k : Nat), .slice pa pn pc] 128 (0, 0)) ∧ Below wr.heap.size wr X :=
            ⟨_, rfl, heap_alloc_new wr _, (Below.refl _ _).alloc (Nat.le_refl _) _⟩
          have hXs : X.heap.size = wr.heap.size + 1 := by rw [hX]; simp
          clear hnu hla hpc
          go_upto_region 16 with (fail)
          rw [← hX]
          clear hX
          have hqX : QB wc.heap.size wc X := HQR.out.trans (Below.qb (hbX.mono HQR.out.size))
          have hLX := HQL.out.qb hqX (Nat.le_refl _)
          have HLX := Lib.hid hLX
          have HQX := Lib.hid hqX
          have HDX := Lib.hid (HDR.out.below' hbX)
          have HPX := Lib.hid (HPC.out.below hbX)
          have HBX2 := Lib.hid hXb
          have HXS := Lib.hid hXs
          have HRS := Lib.hid (show wc.heap.size ≤ wr.heap.size from HQR.out.size)
          generalize ht : wr.heap.size = t at *
          have hSS : ∀ W2 : World, LgV W2 pl (.pointer (some ⟨pd, 0, none⟩)) ev s false → W2.heap[t]? = some (.cells #[.int .u64 (nu : Nat), .int .u64 (la : Nat), .int .u64 (len : Nat), .int .u64 (k : Nat), .slice pa pn pc] 128 (0, 0)) → (fun w' : World => w'.cell? ⟨pl, 7, none⟩ = some (.int .i64 (s.place : Nat)) ∧ w'.cell? ⟨pl, 1, none⟩ = some (.int .i64 (s.ring : Nat)) ∧ w'.cell? ⟨t, 0, none⟩ = some (.int .u64 (nu : Nat)) ∧ w'.cell? ⟨t, 1, none⟩ = some (.int .u64 (la : Nat)) ∧ w'.cell? ⟨t, 2, none⟩ = some (.int .u64 (len : Nat)) ∧ w'.cell? ⟨t, 3, none⟩ = some (.int .u64 (k : Nat)) ∧ w'.cell? ⟨t, 4, none⟩ = some (.slice pa pn pc)) W2 := fun W2 h1 h2 => by
            have a1 := h1.cells
            have fl := fun j => cell_of_row W2 t j _ _ _ h2
            exact ⟨a1.2.2.2.2.2.2.2.1, a1.2.1, fl 0, fl 1, fl 2, fl 3, fl 4⟩
          have HSS := Lib.hid hSS
          have k0 := hSS X.drew hLX.drew hXb
          obtain ⟨m, hm1⟩ : ∃ m : Nat, (s.place + k) % s.ring = m := ⟨_, rfl⟩
          have hring := HF.out.ring
          have hplb := HF.out.place
          have hrb := HF.out.bound
          have hmod := modCast s.place k s.ring m hm1
          have hr0 : ((s.ring : Int) == 0) = false := by simp; omega
          have hmb : m < s.ring := by rw [← hm1]; exact Nat.mod_lt _ hring
          have hw64 : wrap64 (m : Int) = (m : Int) := by unfold wrap64; omega
          have h2m : 2 + (m : Int) = ((2 + m : Nat) : Int) := by omega
          have HAT : Hid (atK s k = 2 + m) := Lib.hid (by unfold atK; rw [hm1])
          have hkk2 : (k : Int) ≤ 65536 := by omega
          have hplz : (s.place : Int) ≤ 65534 := by omega
          have hr00 : ¬ s.ring = 0 := Nat.pos_iff_ne_zero.1 hring
          have hw2 := wrap_two m (Nat.le_trans (Nat.le_of_lt hmb) (Nat.le_trans hrb (by decide)))
          have hwp := wrap_small ((s.place : Int) + (k : Int)) (Int.add_nonneg (Int.natCast_nonneg _) hkb0) (Int.le_trans (Int.add_le_add hplz hkk2) (by decide))
          have HTT : Hid (2 + m < s.ring + 2) := Lib.hid (by rw [Nat.add_comm]; exact Nat.add_lt_add_right hmb 2)
          generalize 2 + m = tt at *
          clear hSS hXb hbX hqX hLX hXs hm1 hring hplb hrb hnb2 hmb
          refine wp_region_held_drew (S := (fun w' : World => w'.cell? ⟨pl, 7, none⟩ = some (.int .i64 (s.place : Nat)) ∧ w'.cell? ⟨pl, 1, none⟩ = some (.int .i64 (s.ring : Nat)) ∧ w'.cell? ⟨t, 0, none⟩ = some (.int .u64 (nu : Nat)) ∧ w'.cell? ⟨t, 1, none⟩ = some (.int .u64 (la : Nat)) ∧ w'.cell? ⟨t, 2, none⟩ = some (.int .u64 (len : Nat)) ∧ w'.cell? ⟨t, 3, none⟩ = some (.int .u64 (k : Nat)) ∧ w'.cell? ⟨t, 4, none⟩ = some (.slice pa pn pc))) (by kernel_rfl) k0 (fun hHeld => ?_)
          refine wpAnyH_take (i := 0) (oi := ⟨_, _, _, _, _, _⟩) (v := ?_) rfl (by kernel_rfl) (by kernel_rfl) (by kernel_rfl) (fun _ _ _ h => h) (Or.inl ⟨by rfl, ?_⟩) (by assumption) ?_
          rotate_left
          · intro w hSw; (try dsimp only at hSw); go_simp <;> with_reducible rfl
          simp only [Act.put, List.setIfInBounds_toArray, List.set_cons_zero, List.set_cons_succ]
          refine wpAnyH_take (i := 1) (oi := ⟨_, _, _, _, _, _⟩) (v := ?_) rfl (by kernel_rfl) (by kernel_rfl) (by kernel_rfl) (fun _ _ _ h => h) (Or.inl ⟨by rfl, ?_⟩) (by assumption) ?_
          rotate_left
          · intro w hSw; (try dsimp only at hSw); go_simp <;> with_reducible rfl
          simp only [Act.put, List.setIfInBounds_toArray, List.set_cons_zero, List.set_cons_succ]
          refine wpAnyH_take (i := 2) (oi := ⟨_, _, _, _, _, _⟩) (v := ?_) rfl (by kernel_rfl) (by kernel_rfl) (by kernel_rfl) (fun _ _ _ h => h) (Or.inl ⟨by rfl, ?_⟩) (by assumption) ?_
          rotate_left
          · intro w hSw; (try dsimp only at hSw); go_simp <;> with_reducible rfl
          simp only [Act.put, List.setIfInBounds_toArray, List.set_cons_zero, List.set_cons_succ]
          refine wpAnyH_take (i := 3) (oi := ⟨_, _, _, _, _, _⟩) (v := ?_) rfl (by kernel_rfl) (by kernel_rfl) (by kernel_rfl) (fun _ _ _ h => h) (Or.inl ⟨by rfl, ?_⟩) (by assumption) ?_
          rotate_left
          · intro w hSw; (try dsimp only at hSw); go_simp <;> with_reducible rfl
          simp only [Act.put, List.setIfInBounds_toArray, List.set_cons_zero, List.set_cons_succ]
          refine wpAnyH_take (i := 4) (oi := ⟨_, _, _, _, _, _⟩) (v := ?_) rfl (by kernel_rfl) (by kernel_rfl) (by kernel_rfl) (fun _ _ _ h => h) (Or.inl ⟨by rfl, ?_⟩) (by assumption) ?_
          rotate_left
          · intro w hSw; (try dsimp only at hSw); go_simp <;> with_reducible rfl
          simp only [Act.put, List.setIfInBounds_toArray, List.set_cons_zero, List.set_cons_succ]
          refine wpAnyH_take (i := 5) (oi := ⟨_, _, _, _, _, _⟩) (v := ?_) rfl (by kernel_rfl) (by kernel_rfl) (by kernel_rfl) (fun _ _ _ h => h) (Or.inl ⟨by rfl, ?_⟩) (by assumption) ?_
          rotate_left
          · intro w hSw; (try dsimp only at hSw); go_simp <;> with_reducible rfl
          simp only [Act.put, List.setIfInBounds_toArray, List.set_cons_zero, List.set_cons_succ]
          refine wpAnyH_take (i := 6) (oi := ⟨_, _, _, _, _, _⟩) (v := ?_) rfl (by kernel_rfl) (by kernel_rfl) (by kernel_rfl) (fun _ _ _ h => h) (Or.inl ⟨by rfl, ?_⟩) (by assumption) ?_
          rotate_left
          · intro w hSw; (try dsimp only at hSw); go_simp <;> with_reducible rfl
          simp only [Act.put, List.setIfInBounds_toArray, List.set_cons_zero, List.set_cons_succ]
          refine wpAnyH_take (i := 7) (oi := ⟨_, _, _, _, _, _⟩) (v := ?_) rfl (by kernel_rfl) (by kernel_rfl) (by kernel_rfl) (fun _ _ _ h => h) (Or.inl ⟨by rfl, ?_⟩) (by assumption) ?_
          rotate_left
          · intro w hSw; (try dsimp only at hSw); go_simp <;> with_reducible rfl
          simp only [Act.put, List.setIfInBounds_toArray, List.set_cons_zero, List.set_cons_succ]
          refine wpAnyH_take (i := 8) (oi := ⟨_, _, _, _, _, _⟩) (v := ?_) rfl (by kernel_rfl) (by kernel_rfl) (by kernel_rfl) (fun _ _ _ h => h) (Or.inl ⟨by rfl, ?_⟩) (by assumption) ?_
          rotate_left
          · intro w hSw; (try dsimp only at hSw); go_simp <;> with_reducible rfl
          simp only [Act.put, List.setIfInBounds_toArray, List.set_cons_zero, List.set_cons_succ]
          refine wpAnyH_take (i := 9) (oi := ⟨_, _, _, _, _, _⟩) (v := ?_) rfl (by kernel_rfl) (by kernel_rfl) (by kernel_rfl) (fun _ _ _ h => h) (Or.inl ⟨by rfl, ?_⟩) (by assumption) ?_
          rotate_left
          · intro w hSw; (try dsimp only at hSw); go_simp <;> with_reducible rfl
          simp only [Act.put, List.setIfInBounds_toArray, List.set_cons_zero, List.set_cons_succ]
          refine wpAnyH_take (i := 10) (oi := ⟨_, _, _, _, _, _⟩) (v := ?_) rfl (by kernel_rfl) (by kernel_rfl) (by kernel_rfl) (fun _ _ _ h => h) (Or.inl ⟨by rfl, ?_⟩) (by assumption) ?_
          rotate_left
          · intro w hSw; (try dsimp only at hSw); go_simp <;> with_reducible rfl
          simp only [Act.put, List.setIfInBounds_toArray, List.set_cons_zero, List.set_cons_succ]
          refine wpAnyH_take (i := 11) (oi := ⟨_, _, _, _, _, _⟩) (v := ?_) rfl (by kernel_rfl) (by kernel_rfl) (by kernel_rfl) (fun _ _ _ h => h) (Or.inl ⟨by rfl, ?_⟩) (by assumption) ?_
          rotate_left
          · intro w hSw; (try dsimp only at hSw); go_simp <;> with_reducible rfl
          simp only [Act.put, List.setIfInBounds_toArray, List.set_cons_zero, List.set_cons_succ]
          refine wpAnyH_take (i := 12) (oi := ⟨_, _, _, _, _, _⟩) (v := ?_) rfl (by kernel_rfl) (by kernel_rfl) (by kernel_rfl) (fun _ _ _ h => h) (Or.inl ⟨by rfl, ?_⟩) (by assumption) ?_
          rotate_left
          · intro w hSw; (try dsimp only at hSw); go_simp <;> with_reducible rfl
          simp only [Act.put, List.setIfInBounds_toArray, List.set_cons_zero, List.set_cons_succ]
          refine wpAnyH_take (i := 13) (oi := ⟨_, _, _, _, _, _⟩) (v := ?_) rfl (by kernel_rfl) (by kernel_rfl) (by kernel_rfl) (fun _ _ _ h => h) (Or.inl ⟨by rfl, ?_⟩) (by assumption) ?_
          rotate_left
          · intro w hSw; (try dsimp only at hSw); go_simp <;> with_reducible rfl
          simp only [Act.put, List.setIfInBounds_toArray, List.set_cons_zero, List.set_cons_succ]
          refine wpAnyH_ready (rs := [14]) (by kernel_rfl) (by simp) ?_
          refine AllReadyH.cons (o := ⟨_, _, _, _, _, _⟩) rfl (fun K hK => ?_) AllReadyH.nil
          go_simp
          go_wp2_with (go_at_call 92; refine (cell_bytes nu la len k (HPX.out.below (Below.refl _ _).drew) (piece_le data k) (by omega) (by omega) (by omega) (by omega)).mono ?_; rintro e w2 ⟨g, rfl, hr, hg, hb⟩; have HR2 := Lib.hid hr; have HG2 : Hid (X.heap.size ≤ g) := Lib.hid hg; have HB2 : Hid (Below X.heap.size X w2) := Lib.hid (((Below.refl X.heap.size X).drew).trans hb); clear hr hg hb)
          clear hr0 hr00 hwp hw2 hw64 hmod h2m k0 hkk2 hplz hkz
          have HQ2 : Hid (QB wc.heap.size wc w2) := Lib.hid (HQX.out.trans ((Below.qb HB2.out).mono HQX.out.size))
          have HL2 := Lib.hid (HQL.out.qb HQ2.out (Nat.le_refl _))
          have HT2 : Hid (w2.heap[t]? = some (.cells #[.int .u64 (nu : Nat), .int .u64 (la : Nat), .int .u64 (len : Nat), .int .u64 (k : Nat), .slice pa pn pc] 128 (0, 0))) := Lib.hid ((HB2.out.block t (by have := HXS.out; show t < X.heap.size; omega)).trans HBX2.out)
          have HD2 := Lib.hid (HDX.out.below' (w' := w2) HB2.out)
          refine hK.out _ _ (HSS.out w2 HL2.out HT2.out) (fun hHeld2 => ?_)
          clear hK K
          have HWA := Lib.hid (write_any HD2.out ⟨_, HL2.out, rfl⟩ tt (by rw [HF.out.disk]; have := HTT.out; omega) HR2.out (cellL_length _ _ _ _ _ (piece_le data k)) (cellL_lt _ _ _ _ _ (fun n hn => H256.out n (List.mem_of_mem_drop (List.mem_of_mem_take hn)))) (by rw [appW_length]; have := HF.out.waits; omega) (Nat.le_trans (Nat.le_trans hB HBL.out.size) (Nat.le_trans HQX.out.size HG2.out)))
          refine wpAnyH_ready (rs := [15]) (by kernel_rfl) (by simp) ?_
          refine AllReadyH.cons (o := ⟨_, _, _, _, _, _⟩) rfl (fun K hK => ?_) AllReadyH.nil
          go_simp
          go_wp2_with (go_at_call 72; refine HWA.out.mono ?_; rintro e w3 ⟨rfl, hd3, hq3⟩; have HD3 := Lib.hid hd3; have HQ3 := Lib.hid hq3; clear hd3 hq3)
          have HQ4 : Hid (QB wc.heap.size wc w3) := Lib.hid (HQ2.out.trans (HQ3.out.mono (Nat.le_trans HQX.out.size HG2.out)))
          have HL3 := Lib.hid (HQL.out.qb HQ4.out (Nat.le_refl _))
          have HT3 : Hid (w3.heap[t]? = some (.cells #[.int .u64 (nu : Nat), .int .u64 (la : Nat), .int .u64 (len : Nat), .int .u64 (k : Nat), .slice pa pn pc] 128 (0, 0))) := Lib.hid (HQ3.out.keep t _ _ _ (by have := HXS.out; have := HG2.out; show t < g; omega) HT2.out (by decide) (by decide) (by decide))
          refine hK.out _ _ (HSS.out w3 HL3.out HT3.out) (fun hHeld3 => ?_)
          clear hK K
          refine wpAnyH_take (i := 16) (oi := ⟨_, _, _, _, _, _⟩) (v := ?_) rfl (by kernel_rfl) (by kernel_rfl) (by kernel_rfl) (fun _ _ _ h => h) (Or.inl ⟨by rfl, ?_⟩) (by assumption) ?_
          rotate_left
          · intro w hSw; (try dsimp only at hSw); go_simp <;> with_reducible rfl
          simp only [Act.put, List.setIfInBounds_toArray, List.set_cons_zero, List.set_cons_succ]
          refine wpAnyH_done (by kernel_rfl) ?_ _
          go_wp2_with fail
          go_roundw
          case rel =>
            refine ⟨k + 1, HKN.out, by go_num, by show _ = Value.int .u64 ((s.number + k : Nat) : Int); rw [HNU.out], by rw [← HNU.out]; go_num, ?_, HQ4.out⟩
            have e : appW s data S W (k + 1) = appW s data S W k ++ [(tt, sealL (cellL nu la len k (piece data k)) (shown S (appW s data S W k) tt))] := by
              show _ ++ [(atK s k, sealL (cellL (s.number + k) (lastK s k) data.length k (piece data k)) (shown S (appW s data S W k) (atK s k)))] = _
              rw [HAT.out, HNU.out, HLA.out, HLE.out]
            rw [e]
            exact HD3.out
          case measure => simp [intOf]; omega
      · obtain rfl : k = n := by omega
        have hLR := HQL.out.qb hqr (Nat.le_refl _)
        have hER := HQE.out.qb hqr (Nat.le_refl _)
        have hBR := hqr.keep q _ _ _ (lt_of_block HBX.out) HBX.out (by decide) (by decide) (by decide)
        have hOR := hqr.own (Nat.le_refl _) HOW.out
        obtain ⟨nu, hnu⟩ : ∃ nu, s.number + k = nu := ⟨_, rfl⟩
        obtain ⟨la, hla⟩ : ∃ la, lastK s k = la := ⟨_, rfl⟩
        rw [hnu, hla]
        have HNU := Lib.hid hnu
        have HLA := Lib.hid hla
        obtain ⟨-, -, -, -, -, -, -, -, -, -, r10, -⟩ := hLR.cells
        have f10 := hLR.free 10
        have hbs : Beside (fun k => k = pl) wr (wr.setCell ⟨pl, 10, none⟩ (.int .u64 (nu : Nat))) := (Beside.refl (fun k => k = pl) wr).setCell (p := ⟨pl, 10, none⟩) (.inl rfl) _
        have hqp : ¬ q = pl := fun e => hLR.ne hBR (by decide) e.symm
        have HL4 := Lib.hid (hLR.set10 nu)
        have HE4 := Lib.hid (hER.set hLR 10 (.int .u64 (nu : Nat)))
        have HD4 := Lib.hid (hdr.beside2 hbs (fun k hk => by subst hk; exact ⟨_, _, _, hLR, by decide, by decide, by decide⟩) (fun k hk => by rw [hk]; exact HH.out.base))
        have HB4 : Hid ((wr.setCell ⟨pl, 10, none⟩ (.int .u64 (nu : Nat))).heap[q]? = some (.cells #[.int .i64 (s.place : Nat), .int .u64 (s.last : Nat), .int .i64 (k : Nat), .slice oa data.length oc] 98 (0, 0))) := Lib.hid ((hbs.block q (lt_of_block hBR) hqp).trans hBR)
        have HO4 := Lib.hid (owns_mono (ownsRow_beside hOR hbs (fun j hj e => ownsRow_ne hOR hLR (by decide) j hj e)) hB)
        have HQ4 : Hid (LQ w (wr.setCell ⟨pl, 10, none⟩ (.int .u64 (nu : Nat)))) := Lib.hid ((((Below.qb HBL.out).lq (Nat.le_refl _)).trans (hqr.lq (Nat.le_refl _))).trans (LQ.beside hbs (fun k hk cs t fr hh => by
          subst hk
          rw [show wr.heap[k]? = _ from hLR] at hh
          simp at hh
          exact .inl hh.2.1.symm)))
        clear hLR hER hBR hOR hbs hqr hdr hqp hnu hla hk hkn
        go_upto_region 22 with (fail)
        generalize wr.setCell ⟨pl, 10, none⟩ (.int .u64 (nu : Nat)) = Y at *
        have z0 := cell_of_row Y q 0 _ _ _ HB4.out
        have z1 := cell_of_row Y q 1 _ _ _ HB4.out
        have z2 := cell_of_row Y q 2 _ _ _ HB4.out
        have z3 := cell_of_row Y q 3 _ _ _ HB4.out
        simp only [List.getElem?_toArray, List.getElem?_cons_zero, List.getElem?_cons_succ] at z0 z1 z2 z3
        have HTK := Lib.hid (take_any (s := { s with number := nu }) HL4.out HE4.out (Nat.le_trans hB HQ4.out.size) (by have h1 := HF.out.ents; rw [← HLS.out] at h1; simp at h1; omega) ⟨s.place, s.last, k, data⟩ HO4.out la HF.out.ring (by have := HF.out.bound; show s.ring ≤ 65536; omega) (by have h1 := HF.out.place; have := HF.out.bound; show s.place ≤ 65536; omega) (by show k ≤ 65536; omega) (by show s.used ≤ 65536; omega))
        go_wp2_with fail
        refine HTK.out.mono ?_
        rintro e w5 ⟨rfl, ev', hl5, he5, hb5⟩
        have hty := LgV.own_type HL4.out HE4.out
        have hd5 := HD4.out.beside2 hb5 (fun k hk => by obtain ⟨cs, t, fr, hh, e | e⟩ := hty k hk <;> exact ⟨cs, t, fr, hh, by rw [e]; decide, by rw [e]; decide, by rw [e]; decide⟩) (fun k hk => by
          rcases hk with rfl | hk
          · exact HH.out.base
          · exact (World.ownsRow.lt HE4.out.row k hk).1)
        have hq5 := HQ4.out.trans (LQ.beside hb5 (fun k hk cs t fr hh => by
          obtain ⟨cs2, t2, fr2, hh2, e⟩ := hty k hk
          rw [hh2] at hh
          simp at hh
          rw [← hh.2.1]
          exact e))
        have HL5 := Lib.hid hl5
        have HE5 := Lib.hid he5
        have HD5 := Lib.hid hd5
        have HQ5 := Lib.hid hq5
        clear hl5 he5 hb5 hd5 hq5 hty
        go_wp2_with fail
        go_ret
        rw [HLE.out, hcn]
        refine ⟨rfl, ⟨HD5.out, ⟨ev', _, ?_, HE5.out, ?_⟩, HH.out.base⟩, HQ5.out⟩
        · unfold appS
          rw [HLE.out, hcn, HLA.out, HNU.out]
          exact HL5.out
        · unfold appS
          rw [List.map_append, HLS.out, HLE.out, hcn]
          rfl
end Go.Proofs.Ytmnbkhgogogeiaa
