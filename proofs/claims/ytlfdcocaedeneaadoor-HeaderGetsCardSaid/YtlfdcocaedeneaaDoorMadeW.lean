/-
  HeaderMade: its walk.
-/
import Derived.Test.YtlfdcocaedeneaaDoorMadeP
import Derived.Test.YtlfdcocaedeneaaDoorSplitsW
import Derived.Lib.AppendStr
namespace Go.Proofs.YtlfdcocaedeneaaDoor
set_option linter.unusedVariables false
open Go.RowKit Go.Lib

/-- a slice of texts -/
def StrsIn (w : World) (v : Value) (S : List ByteArray) : Prop :=
  (∀ s ∈ S, s.size ≤ 140737488351232) ∧ S.length ≤ maxLen ∧ ((S = [] ∧ ∃ a c, v = .slice a 0 c) ∨ ∃ b off c, v = .slice (some ⟨b, off, none⟩) S.length c ∧ b < w.heap.size ∧ S.length ≤ c ∧ ∀ i (h : i < S.length), w.cell? ⟨b, off + i, none⟩ = some (.string S[i]))
theorem StrsIn.shape {w : World} {v : Value} {S : List ByteArray} (h : StrsIn w v S) : ∃ a c, v = .slice a S.length c := by
  rcases h.2.2 with ⟨rfl, a, c, rfl⟩ | ⟨b, off, c, rfl, _⟩
  · exact ⟨a, c, rfl⟩
  · exact ⟨_, c, rfl⟩
theorem StrsIn.at {w : World} {a : Option Addr} {n c : Nat} {S : List ByteArray} (h : StrsIn w (.slice a n c) S) : ∃ b off, ∀ i (hi : i < S.length), a = some ⟨b, off, none⟩ ∧ b < w.heap.size ∧ w.cell? ⟨b, off + i, none⟩ = some (.string S[i]) := by
  rcases h.2.2 with ⟨rfl, a, c, e⟩ | ⟨b, off, c', e, h1, h2, h3⟩
  · exact ⟨0, 0, fun i hi => absurd hi (by simp)⟩
  · simp only [Value.slice.injEq] at e
    exact ⟨b, off, fun i hi => ⟨e.1, h1, h3 i hi⟩⟩

theorem strCells_u8s (s : ByteArray) : strCells s = u8s (natsOf s) := by
  simp [strCells, u8s, natsOf, List.map_map, Function.comp_def]
/-- 'append(out, s...)' of a text's bytes -/
theorem apps {ops : Array Oper} {rest : List Oper} {o : Oper} {a : Act} {Q : Exit → Act → World → Prop} (hgd : o.guard = none) (s x : Operand)
    (ho : o.op = .call { callee := .builtin .append, args := #[s, x], argTypes := #[22, 9] })
    {w : World} {B : Nat} {v : Value} {l : List Nat} {t : ByteArray} (hown : OwnB w B v l) (hB : B ≤ w.heap.size)
    (hs : a.eval s = v) (hx : a.eval x = .string t) (hlen : l.length + t.size ≤ 140737488355328)
    (h : ∀ o' w2, OwnB w2 B o' (l ++ natsOf t) → w.grownBy w2 v.ownBlock → wpList Tryd.prog ops Q rest (a.put o.dst o') w2) :
    wpList Tryd.prog ops Q (o :: rest) a w := by
  obtain ⟨i0, hi, hz0, hz1, hz2⟩ := info_parts Tryd.info5
  refine wpList_append_own_string _ hgd s x 22 9 ho B 5 i0 Tryd.underlying22 Tryd.underlying9 hi hz0 hz1 hz2 v l.length (u8s l) hs hown t hx (by unfold maxLen; omega) (by omega) hB ?_
  intro o' w2 ho' hgr _
  refine h o' w2 ?_ hgr
  unfold OwnB
  rw [u8s_append, List.length_append, natsOf_length, ← strCells_u8s]
  exact ho'

theorem ownB_type {w : World} {B : Nat} {v : Value} {l : List Nat} (h : OwnB w B v l) : ∀ k, v.ownBlock = some k → ∃ C fz, w.heap[k]? = some (.cells C 5 fz) := by
  intro k hk
  rcases h.2 with ⟨rfl, _⟩ | ⟨b, cap, cur, rfl, _, hh, _⟩
  · simp [Value.ownBlock] at hk
  · simp [Value.ownBlock] at hk
    subst hk
    exact ⟨_, _, hh⟩
theorem ownT_type {w : World} {B : Nat} {v : Value} {l : List Tk} (h : OwnT w B v l) : ∀ k, v.ownBlock = some k → ∃ C fz, w.heap[k]? = some (.cells C 28 fz) := by
  intro k hk
  rcases h.2 with ⟨rfl, _⟩ | ⟨b, cap, cur, rfl, _, hh, _⟩
  · simp [Value.ownBlock] at hk
  · simp [Value.ownBlock] at hk
    subst hk
    exact ⟨_, _, hh⟩
theorem ownBT {w : World} {B B' : Nat} {v u : Value} {l : List Nat} {m : List Tk} (h : OwnB w B v l) (k : OwnT w B' u m) (j : Nat) (h1 : v.ownBlock = some j) : u.ownBlock ≠ some j := by
  intro h2
  obtain ⟨_, _, e1⟩ := ownB_type h j h1
  obtain ⟨_, _, e2⟩ := ownT_type k j h2
  rw [e1] at e2
  simp at e2
theorem ownT_turn {w w' : World} {B : Nat} {v : Value} {l : List Tk} (h : OwnT w B v l) {row : Option Nat} (hg : w.grownBy w' row) (hne : ∀ k, v.ownBlock = some k → row ≠ some k) : OwnT w' B v l := by
  refine ⟨h.1, ?_⟩
  rcases h.2 with h2 | ⟨b, cap, cur, rfl, hb, hh, r⟩
  · exact .inl h2
  · refine .inr ⟨b, cap, cur, rfl, hb, ?_, r⟩
    rw [hg.block b (Array.getElem?_eq_some_iff.1 hh).1 (fun e => hne b rfl e.symm)]
    exact hh

/-- 'append(want, field{a, b})' -/
theorem appT1 {ops : Array Oper} {rest : List Oper} {o : Oper} {a : Act} {Q : Exit → Act → World → Prop} (hgd : o.guard = none) (s x : Operand)
    (ho : o.op = .call { callee := .builtin .append, args := #[s, x], argTypes := #[29, 29] })
    {wr : World} {B : Nat} {v : Value} {l : List Tk} {p q : ByteArray} (hown : OwnT wr B v l) (hB : B ≤ wr.heap.size)
    (hs : a.eval s = v) (hx : a.eval x = .slice (some ⟨wr.heap.size, 0, none⟩) 1 1) (hlen : l.length ≤ 1000000)
    (h : ∀ o' w2, OwnT w2 B o' (l ++ [(p, q)]) → (wr.alloc (.cells #[.string p, .string q] 28)).grownBy w2 v.ownBlock → wpList Tryd.prog ops Q rest (a.put o.dst o') w2) :
    wpList Tryd.prog ops Q (o :: rest) a (wr.alloc (.cells #[.string p, .string q] 28)) := by
  obtain ⟨i0, hi, hz0, hz1, hz2⟩ := info_parts info28
  refine wpList_append_own _ hgd s x 29 ho B 28 i0 _ 2 32 Tryd.underlying29 hi hz0 hz1 hz2 rfl (by decide) v l.length (tksV l) hs (World.ownsRow.alloc hown _) ⟨wr.heap.size, 0, none⟩ 1 1 [.string p, .string q] hx rfl (two_new _ _ _ _) (by simp [Value.oneCell']) (by unfold maxLen; omega) (by omega) (by simp; omega) ?_
  intro o' w2 ho' hgr _
  refine h o' w2 ?_ hgr
  unfold OwnT
  rw [tksV_append, List.length_append]
  exact ho'

/-- what is told of a field that was made -/
def wantT (t : ByteArray) : ByteArray := if t.toList.isEmpty then ⟨#[]⟩ else t ++ ⟨#[32, 9]⟩ ++ t
theorem made_any (t : ByteArray) (ht : t.size ≤ 300) (w : World) : Calls Tryd.prog 24 #[.string t] w fun e w' => e = .returned (.string (wantT t)) ∧ w = w' := by
  cases h : t.toList.isEmpty
  · have hw : wantT t = t ++ ⟨#[32, 9]⟩ ++ t := by unfold wantT; rw [h]; rfl
    have HW := Lib.hid hw
    have h2 : ¬ t.toList = [] := by intro e; rw [e] at h; cases h
    clear hw
    go_enter Tryd.func24, Tryd.ntmps24
    go_wp2_with fail
    go_ret
    exact ⟨ret_eq (by rw [HW.out]; rfl), rfl⟩
  · have hw : wantT t = ⟨#[]⟩ := by unfold wantT; rw [h]; rfl
    have HW := Lib.hid hw
    have h2 : t.toList = [] := List.isEmpty_iff.1 h
    clear hw
    go_enter Tryd.func24, Tryd.ntmps24
    go_wp2_with fail
    go_ret
    exact ⟨ret_eq (by rw [HW.out]; rfl), rfl⟩

/-- the fields that are made: their bytes, and what is told of them -/
def pairsOf (N T : List ByteArray) : List (List Nat × List Nat) := List.zipWith (fun n t => (natsOf n, natsOf t)) N T
def wantsOf (N T : List ByteArray) : List Tk := List.zipWith (fun n t => (strL (foldL n.data.toList), wantT t)) N T
structure OkP (n t : ByteArray) : Prop where
  n1 : n.size ≤ 100
  t1 : t.size ≤ 300
  n2 : OkN (natsOf n)
  t2 : OkT (natsOf t)
def OkAll (N T : List ByteArray) (k : Nat) : Prop := ∀ i (h : i < k) (h1 : i < N.length) (h2 : i < T.length), OkP N[i] T[i]

theorem pairs_snoc (N T : List ByteArray) (k : Nat) (h : k < N.length) (h2 : k < T.length) : flatF ((pairsOf N T).take (k + 1)) = flatF ((pairsOf N T).take k) ++ (x1 (natsOf N[k]) (natsOf T[k]) ++ x2 (natsOf T[k])) := by
  rw [List.take_succ_eq_append_getElem (by simp [pairsOf]; omega)]
  simp [flatF, pairsOf]
theorem wants_snoc (N T : List ByteArray) (k : Nat) (h : k < N.length) (h2 : k < T.length) : (wantsOf N T).take (k + 1) = (wantsOf N T).take k ++ [(strL (foldL N[k].data.toList), wantT T[k])] := by
  rw [List.take_succ_eq_append_getElem (by simp [wantsOf]; omega)]
  simp [wantsOf]

theorem natsOf_made (n t : ByteArray) : natsOf (n ++ ⟨#[58, 32]⟩ ++ t ++ ⟨#[13, 10, 32, 9]⟩ ++ t ++ ⟨#[32, 13, 10]⟩) = x1 (natsOf n) (natsOf t) ++ x2 (natsOf t) := by
  simp only [natsOf_append, x1, x2]
  rw [show natsOf ⟨#[58, 32]⟩ = [58, 32] from rfl, show natsOf ⟨#[13, 10, 32, 9]⟩ = [13, 10, 32, 9] from rfl, show natsOf ⟨#[32, 13, 10]⟩ = [32, 13, 10] from rfl]
  simp

theorem want_made (n t : ByteArray) (h : OkT (natsOf t)) : tkOf (mkF (natsOf n, natsOf t)) = (strL (foldL n.data.toList), wantT t) := by
  have e1 : strN ((natsOf n).map lowN) = strL (foldL n.data.toList) := by
    rw [← fold_str (natsOf n) (natsOf_lt n)]
    have : strN (natsOf n) = n := strT_natsOf n
    rw [this]
  have e2 : cutT ([32] ++ natsOf t ++ ([32, 9] ++ natsOf t ++ [32])) = wantT t := by
    rw [cut_made (natsOf t) (fun c hc => ⟨h c hc, natsOf_lt t c hc⟩)]
    unfold wantT
    rw [Go.ByteArray.toList_eq]
    by_cases h0 : natsOf t = []
    · rw [if_pos h0, if_pos (by simpa [natsOf] using h0)]
    · rw [if_neg h0, if_neg (by simpa [natsOf] using h0)]
      have : natsOf t ++ [32, 9] ++ natsOf t = natsOf (t ++ ⟨#[32, 9]⟩ ++ t) := by
        simp only [natsOf_append]
        rfl
      rw [this, strT_natsOf]
  unfold tkOf mkF
  simp only
  rw [e1, e2]

theorem pair_lt (N T : List ByteArray) : ∀ p ∈ pairsOf N T, ∀ c ∈ x1 p.1 p.2 ++ x2 p.2, c < 256 := by
  intro p hp c hc
  obtain ⟨i, hi, rfl⟩ := List.mem_iff_getElem.1 hp
  simp only [pairsOf, List.getElem_zipWith, x1, x2, List.mem_append, List.mem_cons, List.not_mem_nil, or_false] at hc
  have h1 : ∀ s : ByteArray, ∀ c ∈ natsOf s, c < 256 := natsOf_lt
  rcases hc with ((((h | h | h) | h) | h | h) | ((((h | h) | h) | h) | h | h)) <;> first | omega | exact h1 _ c h

set_option maxRecDepth 100000 in
set_option maxHeartbeats 4000000 in
theorem made_walk (v0 v1 v2 : Value) (N T : List ByteArray) (body : List Nat) (w : World) (h0 : StrsIn w v0 N) (h1 : StrsIn w v1 T) (h2 : RowB w v2 body) (hb2 : body.length ≤ 140737488351232) :
    Calls Tryd.prog 7 #[v0, v1, v2] w fun e w' => e = .returned (.bool true) ∧ Below w.heap.size w w' := by
  have HAW := Lib.hid (fun w => awake_any w)
  obtain ⟨a0, c0, rfl⟩ := h0.shape
  obtain ⟨a1, c1, rfl⟩ := h1.shape
  obtain ⟨a2, n2, c2, rfl, hl2, -⟩ := id h2
  have H0 := Lib.hid h0
  have H1 := Lib.hid h1
  have H2 := Lib.hid h2
  have HL2 := Lib.hid hl2
  clear h0 h1 h2 hl2
  by_cases g0 : 20 < N.length
  · clear H0 H1 H2 HL2
    go_enter Tryd.func7, Tryd.ntmps7
    go_wp2_with fail
    refine (HAW.out _).mono ?_
    rintro e w1 ⟨rfl, hb⟩
    have HB := Lib.hid hb
    clear hb
    go_wp2_with fail
    refine (HAW.out _).mono ?_
    rintro e w2 ⟨rfl, hb⟩
    have HB2 := Lib.hid (HB.out.trans (hb.mono HB.out.size))
    clear hb
    go_wp2_with fail
    go_ret
    exact ⟨rfl, HB2.out⟩
  · by_cases g1 : T.length = N.length
    · by_cases g2 : 2000 < (n2 : Int)
      · clear H0 H1 H2 HL2
        rw [g1]
        have g1' : Hid True := Lib.hid trivial
        clear g1
        go_enter Tryd.func7, Tryd.ntmps7
        go_wp2_with fail
        refine (HAW.out _).mono ?_
        rintro e w1 ⟨rfl, hb⟩
        have HB := Lib.hid hb
        clear hb
        go_wp2_with fail
        refine (HAW.out _).mono ?_
        rintro e w2 ⟨rfl, hb⟩
        have HB2 := Lib.hid (HB.out.trans (hb.mono HB.out.size))
        clear hb
        go_wp2_with fail
        go_ret
        exact ⟨rfl, HB2.out⟩
      · rw [g1]
        have HG1 := Lib.hid g1
        clear g1
        have HP : ∀ n, 0 < n → True := fun _ _ => trivial
        go_enter Tryd.func7, Tryd.ntmps7
        go_wp2_with fail
        refine (HAW.out _).mono ?_
        rintro e w1 ⟨rfl, hb⟩
        have hs1 := hb.size
        have HB := Lib.hid hb
        clear hb
        go_wp2_with fail
        go_loopw [7, 8, 9] (fun b want i wr => ∃ (k : Nat) (ba wa : Option Addr) (bl bc wc : Nat), k ≤ N.length ∧ i = .int .i64 k ∧ b = .slice ba bl bc ∧ want = .slice wa k wc ∧ OwnB wr w.heap.size b (flatF ((pairsOf N T).take k)) ∧ OwnT wr w.heap.size want ((wantsOf N T).take k) ∧ Hid (OkAll N T k) ∧ bl ≤ k * 1000 ∧ Below w.heap.size w wr ∧ w.heap.size ≤ wr.heap.size) (fun _ _ i _ => N.length - (RowKit.intOf i).toNat)
        case atStart => exact ⟨0, none, none, 0, 0, 0, Nat.zero_le _, rfl, rfl, rfl, World.ownsRow_nil _ _ _ _, World.ownsRow_nil _ _ _ _, Lib.hid (fun i h => absurd h (by omega)), Nat.le_refl _, HB.out, hs1⟩
        case round =>
          obtain ⟨k, ba, wa, bl, bc, wc, hk, rfl, rfl, rfl, hob, hot, hok, hbl, hbel, hsz⟩ := hrel
          by_cases hkl : k < N.length
          · obtain ⟨b0, o0, hc0⟩ := H0.out.at
            obtain ⟨b1, o1, hc1⟩ := H1.out.at
            obtain ⟨rfl, hb0, hcc0⟩ := hc0 k hkl
            obtain ⟨rfl, hb1, hcc1⟩ := hc1 k (by have := HG1.out; omega)
            have kc0 : wr.cell? ⟨b0, o0 + k, none⟩ = some (.string N[k]) := (hbel.cell (p := ⟨b0, o0 + k, none⟩) hb0).trans hcc0
            have kc1 : wr.cell? ⟨b1, o1 + k, none⟩ = some (.string (T[k]'(by have := HG1.out; omega))) := (hbel.cell (p := ⟨b1, o1 + k, none⟩) hb1).trans hcc1
            have hps := pairs_snoc N T k hkl (by have := HG1.out; omega)
            have hws := wants_snoc N T k hkl (by have := HG1.out; omega)
            have hok1 : OkP N[k] (T[k]'(by have := HG1.out; omega)) → OkAll N T (k + 1) := fun hp i hi h1 h2 => by
              rcases Nat.lt_or_ge i k with h | h
              · exact hok.out i h h1 h2
              · obtain rfl : i = k := by omega
                exact hp
            generalize N[k] = nk at *
            generalize T[k]'(by have := HG1.out; omega) = tk at *
            have HOB := Lib.hid hob
            have HOT := Lib.hid hot
            have HPS := Lib.hid hps
            have HWS := Lib.hid hws
            have HOK := Lib.hid hok1
            have HBEL := Lib.hid hbel
            clear hob hot hps hws hok1 hbel hc0 hc1 hcc0 hcc1 hok
            have hki : (k : Int) < (N.length : Int) := by omega
            cases hne : nk.toList.isEmpty
            · have hne2 : ¬ nk.toList = [] := by intro e; rw [e] at hne; cases hne
              by_cases hn1 : 100 < (nk.size : Int)
              · go_wp2_with fail
                go_quiet (fail)
                go_wp2_with fail
                go_ret
                exact ⟨rfl, below_drewN HBEL.out _⟩
              · by_cases ht1 : 300 < (tk.size : Int)
                · go_wp2_with fail
                  go_quiet (fail)
                  go_wp2_with fail
                  go_ret
                  exact ⟨rfl, below_drewN HBEL.out _⟩
                · go_wp2_with fail
                  go_quiet (fail)
                  go_wp2_with fail
                  go_loop [12] (fun i => ∃ j : Nat, j ≤ nk.size ∧ i = .int .i64 j ∧ Hid (∀ x (h : x < nk.size), x < j → 33 ≤ nk[x].toNat ∧ nk[x].toNat ≤ 126 ∧ nk[x].toNat ≠ 58)) (fun i => nk.size - (RowKit.intOf i).toNat)
                  case atStart => exact ⟨0, Nat.zero_le _, rfl, Lib.hid (fun x _ h => absurd h (by omega))⟩
                  case round =>
                    obtain ⟨j, hj, rfl, hall⟩ := hrel
                    by_cases hjl : j < nk.size
                    · have hji : (j : Int) < (nk.size : Int) := by omega
                      by_cases q1 : (nk[j].toNat : Int) < 33
                      · go_wp2_with fail
                        go_ret
                        exact ⟨rfl, below_drewN HBEL.out _⟩
                      · by_cases q2 : 126 < (nk[j].toNat : Int)
                        · go_wp2_with fail
                          go_ret
                          exact ⟨rfl, below_drewN HBEL.out _⟩
                        · cases q3 : ((nk[j].toNat : Int) == 58)
                          · have HALL : Hid (∀ x (h : x < nk.size), x < j + 1 → 33 ≤ nk[x].toNat ∧ nk[x].toNat ≤ 126 ∧ nk[x].toNat ≠ 58) := Lib.hid (fun x h h2 => by
                              rcases Nat.lt_or_ge x j with h3 | h3
                              · exact hall.out x h h3
                              · obtain rfl : x = j := by omega
                                have := beq_eq_false_iff_ne.1 q3
                                omega)
                            clear hall
                            go_wp2_with fail
                            go_round
                            case rel => exact ⟨j + 1, by omega, by go_num, HALL⟩
                            case measure => simp [RowKit.intOf]; omega
                          · go_wp2_with fail
                            go_ret
                            exact ⟨rfl, below_drewN HBEL.out _⟩
                    · obtain rfl : j = nk.size := by omega
                      go_wp2_with fail
                      go_loop [13] (fun i => ∃ j : Nat, j ≤ tk.size ∧ i = .int .i64 j ∧ Hid (∀ x (h : x < tk.size), x < j → 32 < tk[x].toNat)) (fun i => tk.size - (RowKit.intOf i).toNat)
                      case atStart => exact ⟨0, Nat.zero_le _, rfl, Lib.hid (fun x _ h => absurd h (by omega))⟩
                      case round =>
                        obtain ⟨j, hj2, rfl, hall2⟩ := hrel
                        by_cases hjl2 : j < tk.size
                        · have hji2 : (j : Int) < (tk.size : Int) := by omega
                          by_cases q1 : (tk[j].toNat : Int) ≤ 32
                          · go_wp2_with fail
                            go_ret
                            exact ⟨rfl, below_drewN HBEL.out _⟩
                          · have HALL : Hid (∀ x (h : x < tk.size), x < j + 1 → 32 < tk[x].toNat) := Lib.hid (fun x h h2 => by
                              rcases Nat.lt_or_ge x j with h3 | h3
                              · exact hall2.out x h h3
                              · obtain rfl : x = j := by omega
                                omega)
                            clear hall2
                            go_wp2_with fail
                            go_round
                            case rel => exact ⟨j + 1, by omega, by go_num, HALL⟩
                            case measure => simp [RowKit.intOf]; omega
                        · obtain rfl : j = tk.size := by omega
                          have HNK : Hid (OkP nk tk) := Lib.hid ⟨by omega, by omega, ⟨fun e => hne2 (by rw [Go.ByteArray.toList_eq]; simpa [natsOf] using e), fun c hc => by
                            obtain ⟨x, hx, rfl⟩ := List.mem_map.1 hc
                            obtain ⟨q, hq, rfl⟩ := List.mem_iff_getElem.1 hx
                            exact hall.out q (by simpa using hq) (by simpa using hq)⟩, fun c hc => by
                            obtain ⟨x, hx, rfl⟩ := List.mem_map.1 hc
                            obtain ⟨q, hq, rfl⟩ := List.mem_iff_getElem.1 hx
                            exact hall2.out q (by simpa using hq) (by simpa using hq)⟩
                          have hn2 : nk.size ≤ 100 := by omega
                          have ht2 : tk.size ≤ 300 := by omega
                          clear hall hall2
                          have hobl : bl = (flatF ((pairsOf N T).take k)).length := by obtain ⟨a9, c9, e9⟩ := HOB.out.shape; simp only [Value.slice.injEq] at e9; exact e9.2.1
                          have HOBL := Lib.hid hobl
                          clear hobl
                          go_wp2_with (at_builtin; go_loud (refine apps rfl (.tmp 93) (.tmp 101) rfl (show OwnB (wr.drewN nq) w.heap.size _ _ from HOB.out) (by show w.heap.size ≤ wr.heap.size; exact hsz) rfl rfl (by rw [← HOBL.out]; simp only [ByteArray.size_append]; have z1 : (⟨#[58, 32]⟩ : ByteArray).size = 2 := rfl; have z2 : (⟨#[13, 10, 32, 9]⟩ : ByteArray).size = 4 := rfl; have z3 : (⟨#[32, 13, 10]⟩ : ByteArray).size = 3 := rfl; omega) ?_); intro o4 w4 ho4 hg4)
                          have hgle := hg4.size
                          have hb4 : Below w.heap.size w w4 := (below_drewN HBEL.out nq).grown hg4 (by show w.heap.size ≤ wr.heap.size; exact hsz) (fun k e => OwnB.ownLe HOB.out k e)
                          have hot4 : OwnT w4 w.heap.size (.slice wa k wc) ((wantsOf N T).take k) := ownT_turn (show OwnT (wr.drewN nq) w.heap.size _ _ from HOT.out) hg4 (fun j h1 h2 => ownBT HOB.out HOT.out j h2 h1)
                          have hs4 : wr.heap.size ≤ w4.heap.size := hgle
                          have hwl : ((wantsOf N T).take k).length = k := by simp [wantsOf, HG1.out]; omega
                          have HWL := Lib.hid hwl
                          have HO4 := Lib.hid ho4
                          have HB4 := Lib.hid hb4
                          have HT4 := Lib.hid hot4
                          clear hwl ho4 hg4 hgle hb4 hot4 HOT HOB
                          go_wp2_with (first
                            | (go_at_call 19; refine (fold_any nk (by omega) _).mono ?_; rintro e w5 ⟨rfl, hb5⟩; have hs5 := hb5.size; have HB5 := Lib.hid hb5; clear hb5)
                            | (go_at_call 24; refine (made_any tk ht2 _).mono ?_; rintro e w6 ⟨rfl, rfl⟩)
                            | (at_builtin; go_loud (refine appT1 rfl (.tmp 103) (.tmp 109) rfl (OwnT.below HT4.out HB5.out (Nat.le_refl _)) (by omega) rfl rfl (by rw [HWL.out]; omega) ?_); intro o7 w7 ho7 hg7; have HO7 := Lib.hid ho7; have HG7 := Lib.hid hg7; clear ho7 hg7))
                          have hob7 : OwnB w7 w.heap.size o4 (flatF ((pairsOf N T).take k) ++ natsOf (nk ++ ⟨#[58, 32]⟩ ++ tk ++ ⟨#[13, 10, 32, 9]⟩ ++ tk ++ ⟨#[32, 13, 10]⟩)) := by
                            have h5 := OwnB.keep HO4.out HB5.out (ownB_lt HO4.out)
                            refine ownB_turn (h5.alloc _) HG7.out (fun j h1 h2 => ?_)
                            exact ownBT h5 (OwnT.below HT4.out HB5.out (Nat.le_refl _)) j h1 h2
                          rw [natsOf_made, ← HPS.out] at hob7
                          have hot7 := HO7.out
                          rw [← HWS.out] at hot7
                          obtain ⟨a8, c8, e8⟩ := hob7.shape
                          obtain ⟨a9, c9, e9⟩ := hot7.shape
                          have hwl1 : ((wantsOf N T).take (k + 1)).length = k + 1 := by simp [wantsOf, HG1.out]; omega
                          rw [hwl1] at e9
                          subst e8 e9
                          have hbl7 : (flatF ((pairsOf N T).take (k + 1))).length ≤ (k + 1) * 1000 := by
                            rw [HPS.out, List.length_append, ← HOBL.out]
                            simp [x1, x2, natsOf_length]
                            omega
                          have hb7 : Below w.heap.size w w7 := ((HB4.out.trans (HB5.out.mono (by omega))).alloc (by omega) _).grown HG7.out (by simp; omega) (fun j e => OwnT.ownLe HT4.out j e)
                          have HOB7 := Lib.hid hob7
                          have HOT7 := Lib.hid hot7
                          have HBL7 := Lib.hid hbl7
                          have HB7 := Lib.hid hb7
                          have hs7 : w.heap.size ≤ w7.heap.size := hb7.size
                          clear hob7 hot7 hbl7 hb7 hwl1 hs4 hs5
                          go_roundw
                          case rel => exact ⟨k + 1, a8, a9, _, c8, c9, by omega, by go_num, rfl, rfl, HOB7.out, HOT7.out, Lib.hid (HOK.out HNK.out), HBL7.out, HB7.out, hs7⟩
                          case measure => simp [RowKit.intOf]; omega
            · have hne2 : nk.toList = [] := List.isEmpty_iff.1 hne
              go_wp2_with fail
              go_quiet (fail)
              go_wp2_with fail
              go_ret
              exact ⟨rfl, below_drewN HBEL.out _⟩
          · obtain rfl : k = N.length := by omega
            have hpl : (pairsOf N T).length = N.length := by simp [pairsOf, HG1.out]
            have hwl : (wantsOf N T).length = N.length := by simp [wantsOf, HG1.out]
            rw [List.take_of_length_le (by omega)] at hob hot
            have hokP : ∀ p ∈ pairsOf N T, OkN p.1 ∧ OkT p.2 := by
              intro p hp
              obtain ⟨i, hi, rfl⟩ := List.mem_iff_getElem.1 hp
              have h1 : i < N.length := by omega
              have h2 : i < T.length := by have := HG1.out; omega
              have := hok.out i h1 h1 h2
              simp [pairsOf]
              exact ⟨this.n2, this.t2⟩
            have hwants : (pairsOf N T).map (fun p => tkOf (mkF p)) = wantsOf N T := by
              apply List.ext_getElem (by simp [pairsOf, wantsOf])
              intro i h1 h2
              have h3 : i < N.length := by simp at h1; omega
              have h4 : i < T.length := by have := HG1.out; omega
              have := hok.out i h3 h3 h4
              simp [pairsOf, wantsOf]
              exact want_made _ _ this.t2
            have hbl2 : bl = (flatF (pairsOf N T)).length := by obtain ⟨a9, c9, e9⟩ := hob.shape; simp only [Value.slice.injEq] at e9; exact e9.2.1
            have HOB := Lib.hid hob
            have HOT := Lib.hid hot
            have HOKP := Lib.hid hokP
            have HWN := Lib.hid hwants
            have HBEL := Lib.hid hbel
            have HBL2 := Lib.hid hbl2
            have HWL := Lib.hid hwl
            clear hob hot hokP hwants hbel hbl2 hpl hwl hok
            obtain ⟨L, hL⟩ : ∃ L, flatF (pairsOf N T) ++ [13, 10] = L := ⟨_, rfl⟩
            obtain ⟨m, hm⟩ : ∃ m, L.length = m := ⟨_, rfl⟩
            have hmb : m ≤ 20002 := by have := congrArg List.length hL; simp at this; have := HBL2.out; omega
            have HL := Lib.hid hL
            have HM := Lib.hid hm
            clear hL hm
            go_wp2_with (first
              | (at_builtin; refine apps rfl (.tmp 111) (.const (.string ⟨#[13, 10]⟩)) rfl HOB.out hsz rfl rfl (by rw [← HBL2.out]; have z1 : (⟨#[13, 10]⟩ : ByteArray).size = 2 := rfl; omega) ?_; intro o4 w4 ho4 hg4; rw [show natsOf ⟨#[13, 10]⟩ = [13, 10] from rfl, HL.out] at ho4; obtain ⟨a4, c4, rfl⟩ := ho4.shape; rw [HM.out] at ho4 ⊢; have HO4 := Lib.hid ho4; have HB4 := Lib.hid (HBEL.out.grown hg4 hsz (fun j e => OwnB.ownLe HOB.out j e)); have HT4 := Lib.hid (ownT_turn HOT.out hg4 (fun j h1 h2 => ownBT HOB.out HOT.out j h2 h1)); have hs4 := hg4.size; clear ho4 hg4)
              | (at_builtin; go_loud (refine applw rfl (.tmp 115) (.tmp 116) rfl HO4.out (H2.out.below HB4.out) (by omega) rfl rfl (by rw [HM.out, HL2.out]; omega) ?_); intro o5 w5 ho5 hg5 _; have HO5 := Lib.hid ho5; have HB5 := Lib.hid (HB4.out.grown hg5 (by omega) (fun j e => OwnB.ownLe HO4.out j e)); have HT5 := Lib.hid (ownT_turn HT4.out hg5 (fun j h1 h2 => ownBT HO4.out HT4.out j h2 h1)); have hs5 := hg5.size; clear ho5 hg5))
            have hlt : ∀ c ∈ L ++ body, c < 256 := by
              intro c hc
              rcases List.mem_append.1 hc with h | h
              · rw [← HL.out] at h
                rcases List.mem_append.1 h with h | h
                · obtain ⟨p, hp, hcp⟩ := List.mem_flatMap.1 h
                  exact pair_lt N T p hp c hcp
                · simp at h; omega
              · exact H2.out.lt c h
            have hro := OwnB.rowB HO5.out hlt
            have hll : (L ++ body).length ≤ 30000 := by rw [List.length_append, HM.out, HL2.out]; omega
            have hsp := split_any _ _ w5 hro (by omega)
            have hspl : splitS (L ++ body) = m := by
              rw [splitS_eq, ← HL.out, List.append_assoc, made_split body _ HOKP.out, HL.out, HM.out]
            rw [hspl] at hsp
            have htold : toldS (L ++ body) = wantsOf N T := by
              unfold toldS
              rw [fieldsS_eq, ← HL.out, List.append_assoc, made_run body _ ([], none) HOKP.out]
              simp only [Option.toList, List.append_nil, List.nil_append, List.map_map]
              exact HWN.out
            have HRO := Lib.hid hro
            have HSP := Lib.hid hsp
            have HTD := Lib.hid htold
            have HLL := Lib.hid hll
            clear hro hsp htold hll hlt hspl
            refine HSP.out.mono ?_
            rintro e w6 ⟨rfl, hb6⟩
            have hs6 := hb6.size
            have HB6 := Lib.hid (HB5.out.trans (hb6.mono HB5.out.size))
            have HRO6 := Lib.hid (HRO.out.below hb6)
            have HT6 := Lib.hid (OwnT.below HT5.out hb6 (Nat.le_refl _))
            clear hb6
            go_wp2_with fail
            refine (fields_any _ _ w6 HRO6.out (by have := HLL.out; omega)).mono ?_
            rintro e w7 ⟨va, rfl, hoa, hb7⟩
            have HB7 := Lib.hid (HB6.out.trans (hb7.mono HB6.out.size))
            rw [HTD.out] at hoa
            have HOA := Lib.hid hoa
            have HT7 := Lib.hid (OwnT.below HT6.out hb7 (Nat.le_refl _))
            clear hb7 hoa
            go_wp2_with fail
            refine (plainT_yes HOA.out HT7.out (by rw [HWL.out]; omega)).mono ?_
            rintro e w8 ⟨rfl, hb8⟩
            have HB8 := Lib.hid (HB7.out.trans (hb8.mono HB7.out.size))
            clear hb8
            go_wp2_with fail
            go_ret
            exact ⟨rfl, HB8.out⟩
    · have e1 : ((T.length : Int) == (N.length : Int)) = false := beq_false_of_ne (by omega)
      have e2 : ((T.length : Int) != (N.length : Int)) = true := by simp [bne, e1]
      clear H0 H1 H2 HL2 g1
      go_enter Tryd.func7, Tryd.ntmps7
      go_wp2_with fail
      refine (HAW.out _).mono ?_
      rintro e w1 ⟨rfl, hb⟩
      have HB := Lib.hid hb
      clear hb
      go_wp2_with fail
      refine (HAW.out _).mono ?_
      rintro e w2 ⟨rfl, hb⟩
      have HB2 := Lib.hid (HB.out.trans (hb.mono HB.out.size))
      clear hb
      go_wp2_with fail
      go_ret
      exact ⟨rfl, HB2.out⟩
end Go.Proofs.YtlfdcocaedeneaaDoor
