/-
  HouseFull: the names that are laid; one call more; the walk.
-/
import Derived.Test.YtacalpgiopgkkaaDoorHfT
import Derived.Test.YtacalpgiopgkkaaDoorS5R
import Derived.Test.YtacalpgiopgkkaaDoorCre

section
namespace Go.Proofs.YtacalpgiopgkkaaDoor
set_option linter.unusedVariables false
open Go.RowKit Go.Lib S5

def digL (k : Nat) : List UInt8 := if k < 10 then [dig k] else [dig (k / 10), dig (k % 10)]
/-- the name of number k -/
def nameB (k : Nat) : ByteArray := strL (98 :: digL k)
theorem digits_any (v : Nat) (h : v < 100) (w : World) : Calls Tryd.prog 8 #[.int .u64 v] w fun e w' => e = .returned (.string (strL (digL v))) ∧ Below w.heap.size w w' := by
  unfold digL
  by_cases h1 : v < 10
  · rw [if_pos h1]
    exact digits_one v h1 w
  · rw [if_neg h1]
    exact digits_two v (by omega) h w
theorem name_cat (v : Nat) : (⟨#[98]⟩ : ByteArray) ++ strL (digL v) = nameB v := by
  apply ByteArray.ext
  simp [nameB, strL]
set_option maxRecDepth 100000 in
theorem right_names : ∀ k : Fin 40, rightS (98 :: digL k.val) = true := by decide
theorem rightOk_name (w : World) (hT : Tabs w) (k : Nat) (h : k < 40) : RightOk w (nameB k) := fun W hW => by
  have := right_any (nameB k) (by unfold nameB strL digL; split <;> simp [ByteArray.size]) W (hT.below hW hT.size)
  have e : (nameB k).data.toList = 98 :: digL k := rfl
  rw [e, right_names ⟨k, h⟩] at this
  exact this
theorem names_ne : ∀ j k : Fin 40, 98 :: digL j.val = 98 :: digL k.val → j = k := by decide
theorem name_inj (j k : Nat) (hj : j < 40) (hk : k < 40) (h : nameB j = nameB k) : j = k := by
  have h2 : (nameB j).data.toList = (nameB k).data.toList := by rw [h]
  exact congrArg Fin.val (names_ne ⟨j, hj⟩ ⟨k, hk⟩ h2)
end Go.Proofs.YtacalpgiopgkkaaDoor
end

section
namespace Go.Proofs.YtacalpgiopgkkaaDoor
set_option linter.unusedVariables false
open Go.RowKit Go.Lib S5

/-- INBOX with k messages -/
def I1 (B p m b k : Nat) (w W : World) : Prop :=
  At W p [.map (some m), .int .u32 1] 38 ∧ BMap W m [(inboxB, b, 0)] 1 ∧ (∃ mv xs, At W b [.int .u32 1, .int .u64 (k + 1 : Nat), mv] 59 ∧ W.ownsRow B 68 4 mv k xs) ∧ Below B w W
/-- the mailboxes of the first j names -/
def I2 (B p m j : Nat) (w W : World) : Prop :=
  ∃ L, At W p [.map (some m), .int .u32 (1 + j : Nat)] 38 ∧ BMap W m L (1 + j) ∧ L.map (·.1) = inboxB :: (List.range j).map nameB ∧ L.map (·.2.2) = List.range (1 + j) ∧ Below B w W

theorem own_shape {B e s n : Nat} {w : World} {mv : Value} {xs : List Value} (h : w.ownsRow B e s mv n xs) : ∃ a c, mv = .slice a n c := by
  rcases h.2 with ⟨e, h0⟩ | ⟨g, cap, cur, e, _⟩
  · exact ⟨none, 0, by rw [e, h0]⟩
  · exact ⟨_, cap, e⟩
theorem own_ne {B s n k : Nat} {w : World} {mv : Value} {xs l : List Value} {t e : TypeId} (h : w.ownsRow B e s mv n xs) (ha : At w k l t) (ht : t ≠ e) : ∀ g, mv.ownBlock = some g → g ≠ k := by
  rintro g hg rfl
  rcases h.2 with ⟨e, h0⟩ | ⟨g', cap, cur, e, _, hh, _⟩
  · rw [e] at hg
    simp [Value.ownBlock] at hg
  · rw [e] at hg
    simp [Value.ownBlock] at hg
    subst hg
    unfold At at ha
    rw [hh] at ha
    exact ht (by simp at ha; exact ha.2.symm)
theorem own_neM {B s n m c : Nat} {w : World} {mv : Value} {xs : List Value} {e : TypeId} {L : List (ByteArray × Nat × Nat)} (h : w.ownsRow B e s mv n xs) (ha : BMap w m L c) : ∀ g, mv.ownBlock = some g → g ≠ m := by
  rintro g hg rfl
  rcases h.2 with ⟨e, h0⟩ | ⟨g', cap, cur, e, _, hh, _⟩
  · rw [e] at hg
    simp [Value.ownBlock] at hg
  · rw [e] at hg
    simp [Value.ownBlock] at hg
    subst hg
    unfold BMap at ha
    rw [hh] at ha
    cases ha
theorem own_ge {B e s n : Nat} {w : World} {mv : Value} {xs : List Value} (h : w.ownsRow B e s mv n xs) : ∀ g, mv.ownBlock = some g → B ≤ g := fun g hg => (World.ownsRow.lt h g hg).1

theorem app_step (B p m b i : Nat) (w W : World) (hB : w.heap.size = B) (h : I1 B p m b (min i 200) w W) (h1 : B ≤ p) (h2 : p < m) (h3 : m < b) (ht : Pow w) (hi : i < 230) :
    Calls Tryd.prog 6 #[.pointer (some ⟨p, 0, none⟩), .string inboxB, .slice none 0 0, .string ⟨#[]⟩, .slice none 0 0] W fun e W' => e = .returned (.tuple #[.int .u32 (if i < 200 then i + 1 else 0 : Nat), .int .i64 (if i < 200 then 0 else 4 : Nat)]) ∧ I1 B p m b (min (i + 1) 200) w W' := by
  obtain ⟨hp, hm, ⟨mv, xs, hb, hr⟩, hw⟩ := h
  have hsz := hw.size
  have hpW := ht.below hw (by omega)
  by_cases h200 : i < 200
  · rw [if_pos h200, if_pos h200]
    rw [show min i 200 = i by omega] at hb hr
    rw [show min (i + 1) 200 = i + 1 by omega]
    refine (append_ok B p m b 0 1 1 (i + 1) i 1 [(inboxB, b, 0)] inboxB mv xs none 0 0 [] none 0 [] W hp hm (atB_one _ _ _) hb hr (own_ne hr hb (by decide)) hpW (noZero_nil W) (allOk_nil W) (fun V _ => rowB_nil V) (by decide) h200 (by omega) (by omega)).mono ?_
    rintro e W' ⟨rfl, ⟨mv', fl, bd, k1, k2, k3, k4⟩, k5⟩
    have n1 := own_ne hr hp (by decide)
    have n2 := own_neM hr hm
    refine ⟨rfl, hp.beside k5 (fun h => ?_), (k5.block m (Array.getElem?_eq_some_iff.1 hm).1 (fun h => ?_)).trans hm, ⟨mv', _, k1, k2⟩, hw.trans (k5.below (fun k h => ?_) (by omega))⟩
    · rcases h with h | h
      · omega
      · exact n1 _ h rfl
    · rcases h with h | h
      · omega
      · exact n2 _ h rfl
    · rcases h with h | h
      · omega
      · exact own_ge hr _ h
  · rw [if_neg h200, if_neg h200]
    rw [show min i 200 = 200 by omega] at hb hr
    rw [show min (i + 1) 200 = 200 by omega]
    obtain ⟨a, c, rfl⟩ := own_shape hr
    refine (append_full p m b 0 1 1 201 200 1 [(inboxB, b, 0)] inboxB a c none 0 0 [] none 0 0 W hp hm (atB_one _ _ _) hb hpW (noZero_nil W) (allOk_nil W) (by decide) (by decide)).mono ?_
    rintro e W' ⟨rfl, k5⟩
    exact ⟨rfl, hp.below k5, hm.below k5, ⟨_, _, hb.below k5, owns_below hr k5⟩, hw.trans (k5.mono (by omega))⟩

theorem atB_none : ∀ (L : List (ByteArray × Nat × Nat)) (s : ByteArray), (∀ x ∈ L, x.1 ≠ s) → atB L s = none
  | [], _, _ => rfl
  | x :: r, s, h => by
    simp only [atB]
    rw [if_neg (h x (by simp)), atB_none r s (fun y hy => h y (by simp [hy]))]
    rfl
theorem inbox_ne (i : Nat) : inboxB ≠ nameB i := fun h => by
  have h2 : inboxB.data.toList = (nameB i).data.toList := by rw [h]
  have e : (nameB i).data.toList = 98 :: digL i := rfl
  rw [e] at h2
  exact absurd (List.cons.inj h2).1 (by decide)
theorem create_step (B p m i : Nat) (w W : World) (hB : w.heap.size = B) (h : I2 B p m (min i 23) w W) (h1 : B ≤ p) (h2 : B ≤ m) (hT : Tabs w) (hi : i < 40) :
    Calls Tryd.prog 7 #[.pointer (some ⟨p, 0, none⟩), .string (nameB i)] W fun e W' => e = .returned (.int .i64 (if i < 23 then 0 else 4 : Nat)) ∧ I2 B p m (min (i + 1) 23) w W' := by
  obtain ⟨L, hp, hm, hn, hc, hw⟩ := h
  have hsz := hw.size
  have hTW : Tabs W := hT.below hw (by rw [← hB]; exact hT.size)
  have hlen : L.length = 1 + min i 23 := by have := congrArg List.length hc; simpa using this
  have hno : atB L (nameB i) = none := atB_none L _ fun x hx e => by
    have hx1 : x.1 ∈ L.map (·.1) := List.mem_map_of_mem hx
    rw [hn, e] at hx1
    rcases List.mem_cons.1 hx1 with h | h
    · exact inbox_ne i h.symm
    · obtain ⟨j, hj, hje⟩ := List.mem_map.1 h
      have hj2 := List.mem_range.1 hj
      have := name_inj j i (by omega) hi hje
      omega
  by_cases h23 : i < 23
  · rw [if_pos h23]
    rw [show min i 23 = i by omega] at hp hm hn hc hlen
    rw [show min (i + 1) 23 = i + 1 by omega]
    refine (create_ok W p m (1 + i) (1 + i) L (nameB i) hp hm hno (by omega) (by omega) (rightOk_name W hTW i hi)).mono ?_
    rintro e W' ⟨rfl, b, k1, k2, k3, k4, k5⟩
    refine ⟨rfl, L ++ [(nameB i, b, 1 + i)], k1, k2, ?_, ?_, hw.trans (k5.below (fun k h => by rcases h with h | h <;> omega) (by omega))⟩
    · rw [List.map_append, hn, List.range_succ]
      simp
    · rw [List.map_append, hc, show 1 + (i + 1) = (1 + i) + 1 by omega, List.range_succ]
      simp
  · rw [if_neg h23]
    rw [show min i 23 = 23 by omega] at hp hm hn hc hlen
    rw [show min (i + 1) 23 = 23 by omega]
    refine (create_full W p m (1 + 23) _ L (nameB i) hp hm hno (by omega) (rightOk_name W hTW i hi)).mono ?_
    rintro e W' ⟨rfl, k5⟩
    exact ⟨rfl, L, hp.below k5, hm.below k5, hn, hc, hw.trans (k5.mono (by omega))⟩
end Go.Proofs.YtacalpgiopgkkaaDoor
end

section
namespace Go.Proofs.YtacalpgiopgkkaaDoor
set_option linter.unusedVariables false
open Go.RowKit Go.Lib S5
attribute [local go_sem] Oper.semAt_some

/-- how many names the house tells -/
def NamesOk : Prop := ∀ (w : World) (p m c : Nat) (vd : Int) (L : List (ByteArray × Nat × Nat)), At w p [.map (some m), .int .u32 vd] 38 → BMap w m L c → (∀ x ∈ L, x.2.2 < c) → (L.map (·.2.2)).Nodup → (L.map (·.1)).Nodup → (∀ x ∈ L, x.1.size ≤ 60) → L.length ≤ 24 →
    Calls Tryd.prog 9 #[.pointer (some ⟨p, 0, none⟩)] w fun e w' => ∃ a cp, e = .returned (.slice a L.length cp) ∧ Below w.heap.size w w'
theorem I2.below {B p m j : Nat} {w W V : World} (h : I2 B p m j w W) (hb : Below W.heap.size W V) (hB : B ≤ W.heap.size) : I2 B p m j w V := by
  obtain ⟨L, h1, h2, h3, h4, h5⟩ := h
  exact ⟨L, h1.below hb, h2.below hb, h3, h4, h5.trans (hb.mono hB)⟩
theorem I2.size {B p m j : Nat} {w W : World} (h : I2 B p m j w W) (hB : w.heap.size = B) : B ≤ W.heap.size := by
  obtain ⟨L, h1, h2, h3, h4, h5⟩ := h
  rw [← hB]
  exact h5.size
theorem I2.names (hNm : NamesOk) {B p m j : Nat} {w W : World} (h : I2 B p m (min j 23) w W) (hj : j < 40) :
    ∃ L : List (ByteArray × Nat × Nat), L.length = 1 + min j 23 ∧ Calls Tryd.prog 9 #[.pointer (some ⟨p, 0, none⟩)] W fun e w' => ∃ a cp, e = .returned (.slice a L.length cp) ∧ Below W.heap.size W w' := by
  obtain ⟨L, h1, h2, h3, h4, h5⟩ := h
  have hlen : L.length = 1 + min j 23 := by have := congrArg List.length h4; simpa using this
  refine ⟨L, hlen, hNm W p m _ _ L h1 h2 (fun x hx => ?_) ?_ ?_ (fun x hx => ?_) (by omega)⟩
  · have : x.2.2 ∈ L.map (·.2.2) := List.mem_map_of_mem hx
    rw [h4] at this
    exact List.mem_range.1 this
  · rw [h4]
    exact List.nodup_range
  · rw [h3]
    refine List.nodup_cons.2 ⟨fun h => ?_, ?_⟩
    · obtain ⟨k, _, hk⟩ := List.mem_map.1 h
      exact inbox_ne k hk.symm
    · refine List.pairwise_map.2 ?_
      have hp := List.nodup_range (n := min j 23)
      refine List.Pairwise.imp_of_mem ?_ hp
      intro a b ha hb hne e
      exact hne (name_inj a b (by have := List.mem_range.1 ha; omega) (by have := List.mem_range.1 hb; omega) e)
  · have : x.1 ∈ L.map (·.1) := List.mem_map_of_mem hx
    rw [h3] at this
    rcases List.mem_cons.1 this with h | h
    · rw [h]; decide
    · obtain ⟨k, _, hk⟩ := List.mem_map.1 h
      rw [← hk]
      unfold nameB strL digL
      split <;> simp [ByteArray.size]
set_option maxRecDepth 100000 in
set_option maxHeartbeats 4000000 in
theorem full_walk (hNm : NamesOk) (n bx : Int) (w : World) (ht : Pow w) (hT : Tabs w) :
    Calls Tryd.prog 3 #[.int .i64 n, .int .i64 bx] w fun e w' => e = .returned (.bool true) ∧ Below w.heap.size w w' := by
  obtain ⟨N, hN, hN2⟩ : ∃ N : Nat, Int.tmod (IntKind.u64.wrap n) 230 = (N : Int) ∧ N < 230 := by
    have h0 : 0 ≤ IntKind.u64.wrap n := by rw [IntKind.wrap_u64]; omega
    rw [Int.tmod_eq_emod_of_nonneg h0]
    exact ⟨(IntKind.u64.wrap n % 230).toNat, by omega, by omega⟩
  obtain ⟨M, hM, hM2⟩ : ∃ M : Nat, Int.tmod (IntKind.u64.wrap bx) 40 = (M : Int) ∧ M < 40 := by
    have h0 : 0 ≤ IntKind.u64.wrap bx := by rw [IntKind.wrap_u64]; omega
    rw [Int.tmod_eq_emod_of_nonneg h0]
    exact ⟨(IntKind.u64.wrap bx % 40).toNat, by omega, by omega⟩
  have a1 : IntKind.u64.wrap (N : Int) = N := IntWalk.u64_in _ (by omega)
  have a2 : IntKind.i64.wrap (N : Int) = N := IntWalk.i64_in _ (by omega)
  have a3 : IntKind.u64.wrap (M : Int) = M := IntWalk.u64_in _ (by omega)
  have a4 : IntKind.i64.wrap (M : Int) = M := IntWalk.i64_in _ (by omega)
  obtain ⟨B, hB⟩ : ∃ B, w.heap.size = B := ⟨_, rfl⟩
  have H0 := Lib.hid (And.intro ht (And.intro hT hB))
  have HAW := Lib.hid (fun W (h : Pow W) => awake_any W h)
  clear ht hT hB
  go_enter Tryd.func3, Tryd.ntmps3
  go_upto_region 2 with (go_at_call 4; refine (new_any _).mono ?_; rintro e w1 ⟨p, m, b, rfl, h1, h2, h3, h4, h5, h6, hb1⟩; have H1 := Lib.hid (And.intro h1 (And.intro h2 (And.intro h3 (And.intro h4 (And.intro h5 (And.intro h6 hb1)))))); clear h1 h2 h3 h4 h5 h6 hb1)
  go_upto_region 4 with (go_at_call 5; refine (HAW.out _ (H0.out.1.below H1.out.2.2.2.2.2.2 (Nat.le_refl _))).mono ?_; rintro e w2 ⟨rfl, hb2⟩; have HB2 := Lib.hid hb2; clear hb2)
  go_upto_region 5 with fail
  have hI0 : I1 B p m b (min 0 200) w w2 := by
    obtain ⟨h1, h2, h3, h4, h5, h6, hb1⟩ := H1.out
    have hb2 := HB2.out
    rw [← H0.out.2.2]
    exact ⟨h1.below hb2, h2.below hb2, ⟨_, [], h3.below hb2, World.ownsRow_nil _ _ _ _⟩, hb1.trans (hb2.mono hb1.size)⟩
  have HI0 := Lib.hid hI0
  have hpm : B ≤ p ∧ p < m ∧ m < b := ⟨by have := H1.out.2.2.2.1; have := H0.out.2.2; omega, H1.out.2.2.2.2.1, H1.out.2.2.2.2.2.1⟩
  obtain ⟨hp1, hp2, hp3⟩ := hpm
  clear hI0 a1 a3 hN hM
  go_wp2_with fail
  go_loopw [6] (fun i wr => ∃ k : Nat, i = .int .i64 k ∧ k ≤ N ∧ I1 B p m b (min k 200) w wr) (fun i _ => N - (RowKit.intOf i).toNat)
  case atStart => exact ⟨0, rfl, by omega, HI0.out⟩
  case round =>
    obtain ⟨k, rfl, hk, hI⟩ := hrel
    by_cases hkN : k < N
    · have hz : (k : Int) < N := by omega
      have HST := Lib.hid (app_step B p m b k w wr H0.out.2.2 hI hp1 hp2 hp3 H0.out.1 (by omega))
      have g3 : IntKind.i64.wrap ((k : Int) + 1) = ((k + 1 : Nat) : Int) := by rw [IntWalk.i64_in _ (by omega)]; omega
      have g4 : IntKind.u32.wrap ((k + 1 : Nat) : Int) = ((k + 1 : Nat) : Int) := IntWalk.u32_in _ (by omega)
      clear hI
      by_cases h200 : k < 200
      · rw [if_pos h200, if_pos h200] at HST
        have g1 : (k : Int) < 200 := by omega
        go_wp2_with (go_at_call 6; refine HST.out.mono ?_; rintro e w3 ⟨rfl, hI3⟩; have HI3 := Lib.hid hI3; clear hI3)
        go_roundw
        case rel => exact ⟨k + 1, by simp, by omega, HI3.out⟩
        case measure => simp [RowKit.intOf]; omega
      · rw [if_neg h200, if_neg h200] at HST
        have g1 : ¬ ((k : Int) < 200) := by omega
        have g2 : (200 : Int) ≤ k := by omega
        go_wp2_with (go_at_call 6; refine HST.out.mono ?_; rintro e w3 ⟨rfl, hI3⟩; have HI3 := Lib.hid hI3; clear hI3)
        go_roundw
        case rel => exact ⟨k + 1, by simp, by omega, HI3.out⟩
        case measure => simp [RowKit.intOf]; omega
    · have hz : ¬ ((k : Int) < N) := by omega
      have HII := Lib.hid hI
      clear hI HI0
      go_wp2_with fail
      have hkk : k = N := by omega
      subst hkk
      have hJ0 : I2 B p m (min 0 23) w wr := by
        obtain ⟨h1, h2, _, h4⟩ := HII.out
        exact ⟨[(inboxB, b, 0)], h1, h2, rfl, rfl, h4⟩
      have HJ0 := Lib.hid hJ0
      clear hJ0 HII
      go_loopw [9] (fun i wr => ∃ j : Nat, i = .int .i64 j ∧ j ≤ M ∧ I2 B p m (min j 23) w wr) (fun i _ => M - (RowKit.intOf i).toNat)
      case atStart => exact ⟨0, rfl, by omega, HJ0.out⟩
      case round =>
        obtain ⟨j, rfl, hj, hJ⟩ := hrel
        by_cases hjM : j < M
        · have hz2 : (j : Int) < M := by omega
          have HST := Lib.hid (create_step B p m j w)
          have hWB := hJ.size H0.out.2.2
          have HJ := Lib.hid hJ
          have g3 : IntKind.i64.wrap ((j : Int) + 1) = ((j + 1 : Nat) : Int) := by rw [IntWalk.i64_in _ (by omega)]; omega
          have g4 : IntKind.u64.wrap (j : Int) = (j : Int) := IntWalk.u64_in _ (by omega)
          have HDG := Lib.hid (fun W => digits_any j (by omega) W)
          have hcat := name_cat j
          have hsz : ¬ (9223372036854775807 < (⟨#[98]⟩ : ByteArray).size + (strL (digL j)).size) := by
            have : (strL (digL j)).size ≤ 2 := by unfold strL digL; split <;> simp [ByteArray.size]
            have e1 : (⟨#[98]⟩ : ByteArray).size = 1 := rfl
            omega
          clear hJ
          by_cases h23 : j < 23
          · have g1 : ¬ ((24 : Int) ≤ ((j + 1 : Nat) : Int)) := by omega
            go_wp2_with (first
              | (go_at_call 8; refine (HDG.out _).mono ?_; rintro e w3 ⟨rfl, hb3⟩; have HB3 := Lib.hid hb3; clear hb3)
              | (go_at_call 7; refine (HST.out w3 H0.out.2.2 (I2.below HJ.out HB3.out (by omega)) hp1 (by omega) H0.out.2.1 (by omega)).mono ?_; rintro e w4 ⟨rfl, hI4⟩; rw [if_pos h23]; have HI4 := Lib.hid hI4; clear hI4))
            go_roundw
            case rel => exact ⟨j + 1, by simp, by omega, HI4.out⟩
            case measure => simp [RowKit.intOf]; omega
          · have g1 : (24 : Int) ≤ ((j + 1 : Nat) : Int) := by omega
            go_wp2_with (first
              | (go_at_call 8; refine (HDG.out _).mono ?_; rintro e w3 ⟨rfl, hb3⟩; have HB3 := Lib.hid hb3; clear hb3)
              | (go_at_call 7; refine (HST.out w3 H0.out.2.2 (I2.below HJ.out HB3.out (by omega)) hp1 (by omega) H0.out.2.1 (by omega)).mono ?_; rintro e w4 ⟨rfl, hI4⟩; rw [if_neg h23]; have HI4 := Lib.hid hI4; clear hI4))
            go_roundw
            case rel => exact ⟨j + 1, by simp, by omega, HI4.out⟩
            case measure => simp [RowKit.intOf]; omega
        · have hz2 : ¬ ((j : Int) < M) := by omega
          have hjj : j = M := by omega
          subst hjj
          have hNn : ∃ L : List (ByteArray × Nat × Nat), L.length = 1 + min j 23 ∧ Calls Tryd.prog 9 #[.pointer (some ⟨p, 0, none⟩)] wr fun e w' => ∃ a cp, e = .returned (.slice a L.length cp) ∧ Below wr.heap.size wr w' := I2.names hNm hJ (by omega)
          obtain ⟨L, hL, hN9⟩ := hNn
          rw [hL] at hN9
          have HN9 := Lib.hid hN9
          have HW := Lib.hid hJ.choose_spec.2.2.2.2
          have g3 : IntKind.i64.wrap (1 + (j : Int)) = 1 + (j : Int) := IntWalk.i64_in _ (by omega)
          have g5 : ((1 + min j 23 : Nat) : Int) = min (1 + (j : Int)) 24 := by omega
          clear hJ hN9 hNm
          go_wp2_with (go_at_call 9; refine HN9.out.mono ?_; rintro e w5 ⟨a, cp, rfl, hb5⟩; have HB5 := Lib.hid hb5; clear hb5)
          go_ret
          refine ⟨rfl, ?_⟩
          rw [H0.out.2.2]
          exact HW.out.trans (HB5.out.mono (by have := HW.out.size; rw [H0.out.2.2] at this; exact this))
end Go.Proofs.YtacalpgiopgkkaaDoor
end
