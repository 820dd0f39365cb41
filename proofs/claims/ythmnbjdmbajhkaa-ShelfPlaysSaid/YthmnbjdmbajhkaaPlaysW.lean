/-
  ShelfPlays, the walk.
-/
import Derived.Test.YthmnbjdmbajhkaaEvL
import Derived.Test.YthmnbjdmbajhkaaShM
namespace Go.Proofs.Ythmnbjdmbajhkaa
set_option linter.unusedVariables false
open Go.RowKit
attribute [local go_sem] Oper.semAt_some

theorem evictSh2 {w : World} {p m c : Nat} {b : Int} {r : Option Addr} {cap : Nat} {E : List (Th × Nat)} {L : List Th} {H H' : List (Th × Bool)} (h : Sh w p m c b r cap E L H) (hr : Rel (evS b E L).1 (evS b E L).2.1 H') (hH : ∀ x ∈ H', x ∈ H) :
    Calls Try.prog 15 #[.pointer (some ⟨p, 0, none⟩)] w fun e w' => ∃ v cap', e = .returned v ∧ w'.ownsRow w.heap.size 31 2 v (evS b E L).2.2.length (idC (evS b E L).2.2) ∧
      Sh w' p m c b r cap' (evS b E L).1 (evS b E L).2.1 H' ∧ Beside (evOwn p m r L) w w' ∧ (∀ k, shOwn p m r (evS b E L).1 k → shOwn p m r E k) := by
  refine (evict_any p m c b r cap E L w h.sh h.rel.good h.lens.1 h.sh.not_p h.sh.not_m).mono ?_
  rintro e w5 ⟨v, rfl, ho, ⟨cap5, hs⟩, hg, hm, hb⟩
  obtain ⟨-, -, -, -, -, hsub⟩ := evS_facts b L.length E L rfl h.rel.good
  refine ⟨v, cap5, rfl, ho, ⟨hs, hr, fun x hx hq => At.beside (h.idle x (hH x hx) hq) hb (h.idle_not (hH x hx) hq)⟩, hb, ?_⟩
  rintro k (hk | hk | hk | ⟨y, hy, e⟩)
  · exact .inl hk
  · exact .inr (.inl hk)
  · exact .inr (.inr (.inl hk))
  · exact .inr (.inr (.inr ⟨y, hsub y hy, e⟩))
theorem Sh.gone {w : World} {p m c : Nat} {b : Int} {r : Option Addr} {cap : Nat} {E : List (Th × Nat)} {L : List Th} {H : List (Th × Bool)} (h : Sh w p m c b r cap E L H) : (evS b E L).2.2.length ≤ 1000000 := by
  obtain ⟨-, h2, -⟩ := evS_facts b L.length E L rfl h.rel.good
  have := h.rel.good.cnt
  omega
/-- the shelf and the law's own row side by side -/
structure Play (B : Nat) (w0 w : World) (p m c : Nat) (b : Int) (r : Option Addr) (cap : Nat) (E : List (Th × Nat)) (L : List Th) (H : List (Th × Bool)) (lv : Value) : Prop where
  sh : Sh w p m c b r cap E L H
  row : HRow w B lv H
  low : ∀ k, shOwn p m r E k → B ≤ k
  bel : Below B w0 w
theorem Play.below {B : Nat} {w0 w w' : World} {p m c : Nat} {b : Int} {r : Option Addr} {cap : Nat} {E : List (Th × Nat)} {L : List Th} {H : List (Th × Bool)} {lv : Value} (h : Play B w0 w p m c b r cap E L H lv) (hb : Below w.heap.size w w') (hB : B ≤ w.heap.size) : Play B w0 w' p m c b r cap E L H lv :=
  ⟨h.sh.below hb, h.row.below hb, h.low, h.bel.trans (hb.mono hB)⟩
def Played (B : Nat) (w0 w : World) (p m : Nat) (b : Int) (n : Nat) (lv : Value) : Prop := ∃ (c cap : Nat) (r : Option Addr) (E : List (Th × Nat)) (L : List Th) (H : List (Th × Bool)), E.length ≤ n ∧ B ≤ w.heap.size ∧ Play B w0 w p m c b r cap E L H lv

/-- 'append' of one thing to the law's own row -/
theorem appP {ops : Array Oper} {rest : List Oper} {o : Oper} {a : Act} {Q : Exit → Act → World → Prop} (hgd : o.guard = none) (s x : Operand)
    (ho : o.op = .call { callee := .builtin .append, args := #[s, x], argTypes := #[28, 28] }) {wr : World} {b c d f : Int} {q : Bool} {B : Nat} {v : Value} {H : List (Th × Bool)}
    {g : Nat} (hs : a.eval s = v) (hx : a.eval x = .slice (some ⟨g, 0, none⟩) 1 1) (hg : g = wr.heap.size) (hrow : HRow wr B v H) (hB : B ≤ wr.heap.size) (hn : H.length ≤ 999999)
    (h : ∀ v' w2, HRow w2 B v' (H ++ [(⟨0, b, c, d, f⟩, q)]) → Beside (fun k => v.ownBlock = some k) wr w2 → wpList Try.prog ops Q rest (a.put o.dst v') w2) :
    wpList Try.prog ops Q (o :: rest) a (wr.alloc (.cells #[.int .u32 b, .int .u32 c, .int .i64 d, .int .i64 f, .bool q] 37)) := by
  subst hg
  have hba : Below wr.heap.size wr (wr.alloc (.cells #[.int .u32 b, .int .u32 c, .int .i64 d, .int .i64 f, .bool q] 37)) := (Below.refl _ _).alloc (Nat.le_refl _) _
  obtain ⟨v', w', h1, h2, h3, -⟩ := run_appH (K := [((⟨0, b, c, d, f⟩ : Th), q)]) (hrow.below hba) o.type ⟨wr.heap.size, 0, none⟩ 1 (fun j u hj => cell_five_new wr _ _ _ _ _ 37 j u (by simpa [oneC] using hj)) (by simp; omega) (by simp; omega)
  exact wpList_appH (R := fun v' w' => HRow w' B v' (H ++ [(⟨0, b, c, d, f⟩, q)]) ∧ Beside (fun k => v.ownBlock = some k) wr w') hgd s x ho hs hx ⟨v', w', h1, h2, (Below.beside hba).trans' h3 (fun k hk e => e)⟩ (fun v2 w2 hh => h v2 w2 hh.1 hh.2)
theorem HRow.congr {w : World} {B : Nat} {v : Value} {H K : List (Th × Bool)} (e : oneC H = oneC K) (h : HRow w B v H) : HRow w B v K := by
  have hl : H.length = K.length := by
    have := congrArg List.length e
    rw [oneC_len, oneC_len] at this
    omega
  rcases h with ⟨rfl, rfl⟩ | ⟨g, cap, cur, rfl, hB, ha, h1, h2, h3, h4⟩
  · exact .inl ⟨rfl, List.length_eq_zero_iff.1 (by simpa using hl.symm)⟩
  · exact .inr ⟨g, cap, cur, by rw [hl], hB, ha, by omega, h2, h3, by rw [← e]; exact h4⟩
theorem at_of {E : List (Th × Nat)} {L : List Th} {H : List (Th × Bool)} (h : Rel E L H) {v u : Int} {i : Nat} (hk : atH H v u = some i) : ∃ hi : i < H.length, H[i].1.v = v ∧ H[i].1.u = u := by
  rw [atH_at H E v u h.th] at hk
  cases hq : at? E v u with
  | none => rw [hq] at hk; cases hk
  | some z =>
    rw [hq] at hk
    obtain ⟨j, y⟩ := z
    simp only [Option.map_some, Option.some.injEq] at hk
    subst hk
    obtain ⟨hj, e1, e2, e3⟩ := at_some hq
    have hjH : j < H.length := by rw [h.len]; exact hj
    have := h.at j hjH hj
    rw [e1] at this
    exact ⟨hjH, by rw [← this]; exact e2, by rw [← this]; exact e3⟩
namespace shelfPlays
set_option maxRecDepth 100000 in
set_option maxHeartbeats 16000000 in
theorem walk (w : World) (bud : Int) (wb : (Lit.int .i64 bud).wf = true) (v : Value) (l : List OpD) (hr : RowO w v l) : Calls Try.prog 3 #[.int .i64 bud, v] w fun e w' => e = .returned (.bool true) ∧ Below w.heap.size w w' := by
  obtain ⟨av, lcap, rfl, hl1, hl2, hl3, hl4⟩ := hr
  have HL4 := Lib.hid hl4
  have HL3 := Lib.hid hl3
  clear hl4 hl3
  by_cases hbad : bud < 0 ∨ bud > 1073741824
  · have HN := Lib.hid (new_not bud w hbad)
    by_cases h0 : bud < 0
    · have hd0 : decide (0 ≤ bud) = false := decide_eq_false (by omega)
      clear hbad
      go_enter Try.func3, Try.ntmps3
      go_wp2_with fail
      refine HN.out.mono ?_
      rintro e w1 ⟨rfl, rfl⟩
      go_wp2_with fail
      refine (awake_any _).mono ?_
      rintro e w2 ⟨rfl, hb2⟩
      go_wp2_with fail
      go_ret
      exact ⟨rfl, hb2⟩
    · have h1 : bud > 1073741824 := hbad.resolve_left h0
      have hd0 : decide (0 ≤ bud) = true := decide_eq_true (by omega)
      have hd1 : decide (bud ≤ 1073741824) = false := decide_eq_false (by omega)
      clear hbad
      go_enter Try.func3, Try.ntmps3
      go_wp2_with fail
      refine HN.out.mono ?_
      rintro e w1 ⟨rfl, rfl⟩
      go_wp2_with fail
      refine (awake_any _).mono ?_
      rintro e w2 ⟨rfl, hb2⟩
      go_wp2_with fail
      go_ret
      exact ⟨rfl, hb2⟩
  have h0 : 0 ≤ bud := by omega
  have h1 : bud ≤ 1073741824 := by omega
  have hd0 : decide (0 ≤ bud) = true := decide_eq_true (by omega)
  have hd1 : decide (bud ≤ 1073741824) = true := decide_eq_true (by omega)
  clear hbad
  go_enter Try.func3, Try.ntmps3
  go_wp2_with fail
  refine (new_any bud w (by omega) (by omega)).mono ?_
  rintro e w1 ⟨rfl, rfl⟩
  have HSA := Lib.hid (sh_new bud w)
  have HB1 : Hid (Below w.heap.size w ((w.alloc (.map #[] 0)).alloc (.cells #[.int .i64 bud, .int .i64 0, .map (some w.heap.size), .slice none 0 0] 56))) := Lib.hid (((Below.refl _ _).alloc (Nat.le_refl _) _).alloc (by simp) _)
  generalize ((w.alloc (.map #[] 0)).alloc (.cells #[.int .i64 bud, .int .i64 0, .map (some w.heap.size), .slice none 0 0] 56)) = w1 at *
  obtain ⟨pa, hpa⟩ : ∃ p, w.heap.size + 1 = p := ⟨_, rfl⟩
  rw [hpa] at HSA ⊢
  have HPA := Lib.hid hpa
  clear hpa
  go_wp2_with fail
  refine (awake_any w1).mono ?_
  rintro e w3 ⟨rfl, hb3⟩
  have HP0 : Hid (Played w.heap.size w w3 pa w.heap.size bud 0 (.slice none 0 0)) := Lib.hid ⟨0, 0, none, [], [], [], by simp, by have := HB1.out.size; have := hb3.size; omega, HSA.out.below hb3, HRow.nil _ _, (by
    have := HPA.out
    rintro k (rfl | rfl | ⟨_, h, _⟩ | ⟨_, h, _⟩)
    · omega
    · omega
    · cases h
    · cases h), HB1.out.trans (hb3.mono HB1.out.size)⟩
  clear hb3 HB1 HSA
  go_upto_block 0 with fail
  go_cut [7, 8] (fun lv iv wr => Played w.heap.size w wr pa w.heap.size bud 200 lv)
  case rest =>
    obtain ⟨c, cap, r, E, L, H, hE, hBs, hp⟩ := hcut
    have HP2 := Lib.hid hp
    have HC := Lib.hid (evictL_any hp.sh.rel bud w.heap.size u7 wc hp.row)
    have HGN := Lib.hid hp.sh.gone
    have HBS := Lib.hid hBs
    clear hp hBs
    go_wp2_with fail
    refine HC.out.mono ?_
    rintro e w3 ⟨gv, lv, rfl, H3, hg3, hr3, hrel3, hsub3, hb3⟩
    have HS3 := Lib.hid (HP2.out.sh.below hb3)
    have HG3 := Lib.hid hg3
    have HREL3 := Lib.hid hrel3
    have HSUB3 := Lib.hid hsub3
    have HB3 : Hid (Below w.heap.size w w3) := Lib.hid (HP2.out.bel.trans (hb3.mono HBS.out))
    clear hg3 hr3 hrel3 hsub3 hb3
    go_wp2_with fail
    refine (evictSh2 HS3.out HREL3.out HSUB3.out).mono ?_
    rintro e w4 ⟨sv, cap4, rfl, ho4, hs4, hb4, hg4⟩
    have hG4 := owns_beside' HG3.out hb4 (fun k hk => HS3.out.apart HG3.out (by decide) k (HS3.out.own hk))
    have HB4 : Hid (Below w.heap.size w w4) := Lib.hid (HB3.out.trans (hb4.below (fun k hk => HP2.out.low k (HS3.out.own hk)) HB3.out.size))
    have HPL2 := Lib.hid (plainI_any ho4 hG4 HGN.out)
    clear hs4 hb4 hg4 ho4 hG4
    go_wp2_with fail
    refine HPL2.out.mono ?_
    rintro e w5 ⟨rfl, hb5⟩
    have HB5 : Hid (Below w.heap.size w w5) := Lib.hid (HB4.out.trans (hb5.mono HB4.out.size))
    clear hb5
    go_wp2_with fail
    go_ret
    exact ⟨rfl, HB5.out⟩
  go_wp2_with fail
  go_loopw [7, 8] (fun lv iv wr => ∃ k : Nat, iv = .int .i64 k ∧ k ≤ l.length ∧ k ≤ 200 ∧ Played w.heap.size w wr pa w.heap.size bud k lv) (fun _ iv _ => l.length - (RowKit.intOf iv).toNat)
  case atStart => exact ⟨0, rfl, by omega, by omega, HP0.out⟩
  case round =>
    obtain ⟨k, rfl, hkl, hk200, hpl⟩ := hrel
    have HPL := Lib.hid hpl
    clear hpl
    by_cases hlt : k < l.length
    · have hii : (k : Int) < (l.length : Int) := by omega
      by_cases h200 : k < 200
      · have hi1 : (k : Int) < 200 := by omega
        obtain ⟨c, cap, r, E, L, H, hE, hBs, hp⟩ := HPL.out
        obtain ⟨g, q, hx⟩ : ∃ g q, av = some ⟨g, q, none⟩ := by
          cases hav : av with
          | none => have := HL3.out hav; omega
          | some x =>
            obtain ⟨g, q, s⟩ := x
            have := World.cell?_spot (HL4.out _ hav 0 (by omega)).c0
            have hs : s = none := by simpa [Addr.add] using this
            exact ⟨g, q, by rw [hs]⟩
        have ho := HL4.out _ hx k hlt
        subst hx
        obtain ⟨o, hoo⟩ : ∃ o, l[k] = o := ⟨_, rfl⟩
        rw [hoo] at ho
        clear hoo
        obtain ⟨kind, vv, uu, sz, us, cl⟩ := o
        obtain ⟨o0, o1, o2, o3, o4, o5, -, -⟩ := ho
        have key : ∀ {q : Addr} {z : Value}, w.cell? q = some z → wr.cell? q = some z := fun {q z} hq => (hp.bel.cell (World.block_lt_of_cell? w _ hq)).trans hq
        replace o0 : wr.cell? ⟨g, q + k * 6, none⟩ = some (.int .i64 kind) := key (by rw [← Addr.add_lit]; exact o0)
        replace o1 : wr.cell? ⟨g, q + k * 6 + 1, none⟩ = some (.int .u32 vv) := key (by rw [Nat.add_assoc, ← Addr.add_lit]; exact o1)
        replace o2 : wr.cell? ⟨g, q + k * 6 + 2, none⟩ = some (.int .u32 uu) := key (by rw [Nat.add_assoc, ← Addr.add_lit]; exact o2)
        replace o3 : wr.cell? ⟨g, q + k * 6 + 3, none⟩ = some (.int .i64 sz) := key (by rw [Nat.add_assoc, ← Addr.add_lit]; exact o3)
        replace o4 : wr.cell? ⟨g, q + k * 6 + 4, none⟩ = some (.int .i64 us) := key (by rw [Nat.add_assoc, ← Addr.add_lit]; exact o4)
        replace o5 : wr.cell? ⟨g, q + k * 6 + 5, none⟩ = some (.bool cl) := key (by rw [Nat.add_assoc, ← Addr.add_lit]; exact o5)
        clear key
        have HP := Lib.hid hp
        have hHE := hp.sh.rel.len
        clear hp
        go_wp2_with fail
        have hba : Below wr.heap.size wr (wr.alloc (.cells #[.int .i64 kind, .int .u32 vv, .int .u32 uu, .int .i64 sz, .int .i64 us, .bool cl] 33)) := (Below.refl _ _).alloc (Nat.le_refl _) _
        have HPA2 := Lib.hid (HP.out.below hba hBs)
        have HOA := Lib.hid (heap_alloc_new wr (.cells #[.int .i64 kind, .int .u32 vv, .int .u32 uu, .int .i64 sz, .int .i64 us, .bool cl] 33))
        have HNO : Hid (¬ shOwn pa w.heap.size r E wr.heap.size) := Lib.hid (fun h => by have := HP.out.sh.lt h; omega)
        have HNL : Hid (u7.ownBlock ≠ some wr.heap.size) := Lib.hid (fun h => by have := (HP.out.row.block h).2.1; omega)
        have hsa : (wr.alloc (.cells #[.int .i64 kind, .int .u32 vv, .int .u32 uu, .int .i64 sz, .int .i64 us, .bool cl] 33)).heap.size = wr.heap.size + 1 := by simp
        generalize wr.alloc (.cells #[.int .i64 kind, .int .u32 vv, .int .u32 uu, .int .i64 sz, .int .i64 us, .bool cl] 33) = wa at *
        clear o0 o1 o2 o3 o4 o5 hba
        refine (at_any w.heap.size _ H vv uu wa HPA2.out.row (by omega)).mono ?_
        rintro e w2 ⟨rfl, hb2⟩
        have HP2 := Lib.hid (HPA2.out.below hb2 (by omega))
        have HO2 := Lib.hid (At.below HOA.out hb2 (by omega))
        have hs2 : w.heap.size ≤ w2.heap.size := by have := hb2.size; omega
        have HOB : Hid (w.heap.size ≤ wr.heap.size) := Lib.hid hBs
        obtain ⟨ob, hob⟩ : ∃ ob, wr.heap.size = ob := ⟨_, rfl⟩
        rw [hob] at HO2 HNO HNL HOB ⊢
        have hats := Lib.hid (atH_at H E vv uu HP2.out.sh.rel.th)
        have HHE := Lib.hid hHE
        clear hb2 HPA2 HOA hsa hob HP hBs hHE
        have x0 := HO2.out.cell 0 (.int .i64 kind) rfl
        have x1 := HO2.out.cell 1 (.int .u32 vv) rfl
        have x2 := HO2.out.cell 2 (.int .u32 uu) rfl
        have x3 := HO2.out.cell 3 (.int .i64 sz) rfl
        have x4 := HO2.out.cell 4 (.int .i64 us) rfl
        have x5 := HO2.out.cell 5 (.bool cl) rfl
        obtain ⟨n1, hn1⟩ : ∃ n1, k + 1 = n1 := ⟨_, rfl⟩
        go_upto_block 2 with fail
        go_cut [7, 10] (fun lv kv wx => Played w.heap.size w wx pa w.heap.size bud n1 lv)
        case rest =>
          obtain ⟨c3, cap3, r3, E3, L3, H3, hE3, hBs3, hp3⟩ := hcut
          have HP3 := Lib.hid hp3
          have hHE3 := hp3.sh.rel.len
          have hsz3 := sumH_E hp3.sh.rel.th
          have hcnt := hp3.sh.rel.good.cnt
          have hrng : ∀ x ∈ H3, 0 ≤ x.1.size ∧ x.1.size ≤ 1048576 := fun x hx => by
            obtain ⟨n, hn⟩ := hp3.sh.rel.mem hx
            exact hp3.sh.rel.good.rng _ hn
          have HCNT := Lib.hid (fun W => count_any pa w.heap.size c3 bud r3 cap3 E3 L3 W)
          have HSZ := Lib.hid (fun W => size_any pa w.heap.size c3 bud r3 cap3 E3 L3 W)
          have HSH : Hid (∀ W, HRow W w.heap.size u7 H3 → Calls Try.prog 19 #[u7] W fun e w' => e = .returned (.int .i64 (sumE E3)) ∧ Below W.heap.size W w') := Lib.hid (fun W hW => by
            rw [← hsz3]
            exact sizeH_any w.heap.size u7 H3 W hW (by omega) hrng)
          obtain ⟨ra, rc, hrv, -⟩ := hp3.row.shape
          rw [hHE3] at hrv
          have HN1 := Lib.hid hn1
          have HBS3 := Lib.hid hBs3
          have HE3 := Lib.hid hE3
          subst hrv
          clear hp3 hHE3 hsz3 hcnt hrng hBs3 hE3 hats x0 x1 x2 x3 x4 x5
          go_wp2_with fail
          refine (HCNT.out _ HP3.out.sh.sh).mono ?_
          rintro e w4 ⟨rfl, hb4⟩
          have HP4 := Lib.hid (HP3.out.below hb4 HBS3.out)
          have HS4 : Hid (w.heap.size ≤ w4.heap.size) := Lib.hid (Nat.le_trans HBS3.out hb4.size)
          clear hb4
          go_wp2_with fail
          refine (HSZ.out _ HP4.out.sh.sh).mono ?_
          rintro e w5 ⟨rfl, hb5⟩
          have HP5 := Lib.hid (HP4.out.below hb5 HS4.out)
          have HS5 : Hid (w.heap.size ≤ w5.heap.size) := Lib.hid (Nat.le_trans HS4.out hb5.size)
          clear hb5
          go_wp2_with fail
          refine (HSH.out _ HP5.out.row).mono ?_
          rintro e w6 ⟨rfl, hb6⟩
          have HP6 := Lib.hid (HP5.out.below hb6 HS5.out)
          have HS6 : Hid (w.heap.size ≤ w6.heap.size) := Lib.hid (Nat.le_trans HS5.out hb6.size)
          clear hb6
          go_wp2_with fail
          go_roundw
          case rel => exact ⟨k + 1, by go_num, hlt, by omega, c3, cap3, r3, E3, L3, H3, by have := HE3.out; have := HN1.out; omega, HS6.out, HP6.out⟩
          case measure => simp [RowKit.intOf]; omega
        case first =>
          have HKL := Lib.hid hk200
          by_cases hk1 : kind = 1
          · as_aux_lemma =>
              subst hk1
              cases hka : atH H vv uu with
              | none =>
                have hq : at? E vv uu = none := by have h := hats.out; rw [hka] at h; simpa using h.symm
                have e : kI none = -1 := rfl
                have HC := Lib.hid (touch_none HP2.out.sh vv uu us hq)
                rw [e]
                clear hats hka hq
                go_wp2_with fail
                refine HC.out.mono ?_
                rintro e w3 ⟨rfl, hb3⟩
                have HPX := Lib.hid (HP2.out.below hb3 hs2)
                have HBX : Hid (w.heap.size ≤ w3.heap.size) := Lib.hid (Nat.le_trans hs2 hb3.size)
                clear hb3
                go_wp2_with fail
                go_meet
                exact ⟨c, cap, r, E, L, H, by omega, HBX.out, HPX.out⟩

              | some i =>
                have e : kI (some i) = (i : Int) := rfl
                obtain ⟨hi, rfl, rfl⟩ := at_of HP2.out.sh.rel hka
                have hi0 : decide ((0 : Int) ≤ (i : Int)) = true := decide_eq_true (by omega)
                have HC := Lib.hid (touch_some HP2.out.sh us hi)
                obtain ⟨ra, rc, hrv, hrc1, hrc2, hrg⟩ := HP2.out.row.shape
                obtain ⟨rg, rfl⟩ := hrg (by omega)
                subst hrv
                rw [e]
                clear hats hka
                go_wp2_with fail
                refine HC.out.mono ?_
                rintro e w3 ⟨rfl, E', L', hs3, hb3, hg3, hE3⟩
                have HS3 := Lib.hid hs3
                have HR3 := Lib.hid (HP2.out.row.beside hb3 (HP2.out.sh.apartH HP2.out.row))
                have HO3 := Lib.hid (At.beside HO2.out hb3 HNO.out)
                have HB3 : Hid (Below w.heap.size w w3) := Lib.hid (HP2.out.bel.trans (hb3.below HP2.out.low hs2))
                have HLOW : Hid (∀ k, shOwn pa w.heap.size r E' k → w.heap.size ≤ k) := Lib.hid (fun k hk => HP2.out.low k (hg3 k hk))
                have HE3 := Lib.hid hE3
                clear hs3 hb3 hg3 hE3 x0 x1 x2 x3 x4 x5
                have x4 := HO3.out.cell 4 (.int .i64 us) rfl
                obtain ⟨q0, q1, q2, q3, q4⟩ := oneC_at H i hi
                have a3 : w3.cell? ⟨rg, i * 5 + 3, none⟩ = some (.int .i64 H[i].1.used) := HR3.out.cell (by rw [Nat.mul_comm i 5]; exact q3)
                have f3 : w3.frozen? ⟨rg, i * 5 + 3, none⟩ = false := HR3.out.froz _
                have hiI : (i : Int) < (H.length : Int) := by omega
                have HSET := Lib.hid (HR3.out.set hi (by decide : 3 < 5) (used H[i].1 us, H[i].2) (.int .i64 us) rfl (fun e he => by
                  match e, he with
                  | 0, _ => rfl
                  | 1, _ => rfl
                  | 2, _ => rfl
                  | 3, h => exact absurd rfl h
                  | 4, _ => rfl
                  | e + 5, _ => rfl))
                have HRB : Hid (Beside (fun k => k = rg) w3 (w3.setCell ⟨rg, i * 5 + 3, none⟩ (.int .i64 us))) := Lib.hid ((Beside.refl (fun k => k = rg) w3).setCell (p := ⟨rg, i * 5 + 3, none⟩) (.inl rfl) _)
                have HRGB : Hid (w.heap.size ≤ rg) := Lib.hid (by obtain ⟨-, cur, -, h, -⟩ := HR3.out.at; exact h)
                have HSN := Lib.hid (HS3.out.beside HRB.out (fun k hk e => HS3.out.apartH HR3.out k hk (by rw [e]; rfl)))
                clear q0 q1 q2 q3 q4
                go_wp2_with fail
                go_meet
                exact ⟨c, cap, r, E', L', _, by have := HE3.out; omega, by have := HB3.out.size; have := HRB.out.size; omega, HSN.out, HSET.out, HLOW.out, HB3.out.trans (HRB.out.below (fun k hk => by subst hk; exact HRGB.out) HB3.out.size)⟩
          have e1 : (kind == 1) = false := by rw [beq_eq_false_iff_ne]; exact hk1
          by_cases hk2 : kind = 2
          · as_aux_lemma =>
              subst hk2
              cases hka : atH H vv uu with
              | none =>
                have hq : at? E vv uu = none := by have h := hats.out; rw [hka] at h; simpa using h.symm
                have e : kI none = -1 := rfl
                have HC := Lib.hid (clean_none HP2.out.sh vv uu hq)
                rw [e]
                clear hats hka hq
                go_wp2_with fail
                refine HC.out.mono ?_
                rintro e w3 ⟨rfl, hb3⟩
                have HPX := Lib.hid (HP2.out.below hb3 hs2)
                have HBX : Hid (w.heap.size ≤ w3.heap.size) := Lib.hid (Nat.le_trans hs2 hb3.size)
                clear hb3
                go_wp2_with fail
                go_meet
                exact ⟨c, cap, r, E, L, H, by omega, HBX.out, HPX.out⟩

              | some i =>
                have e : kI (some i) = (i : Int) := rfl
                obtain ⟨hi, rfl, rfl⟩ := at_of HP2.out.sh.rel hka
                have hi0 : decide ((0 : Int) ≤ (i : Int)) = true := decide_eq_true (by omega)
                have HC := Lib.hid (clean_some HP2.out.sh hi)
                obtain ⟨ra, rc, hrv, hrc1, hrc2, hrg⟩ := HP2.out.row.shape
                obtain ⟨rg, rfl⟩ := hrg (by omega)
                subst hrv
                rw [e]
                clear hats hka
                go_wp2_with fail
                refine HC.out.mono ?_
                rintro e w3 ⟨rfl, r3, cap3, L', hs3, hb3, hg3⟩
                have HS3 := Lib.hid hs3
                have HR3 := Lib.hid (HP2.out.row.beside hb3 (HP2.out.sh.apartH HP2.out.row))
                have HO3 := Lib.hid (At.beside HO2.out hb3 HNO.out)
                have HB3 : Hid (Below w.heap.size w w3) := Lib.hid (HP2.out.bel.trans (hb3.below HP2.out.low hs2))
                have HLOW : Hid (∀ k, shOwn pa w.heap.size r3 E k → w.heap.size ≤ k) := Lib.hid (fun k hk => by
                  rcases hg3 k hk with h | h
                  · exact HP2.out.low k h
                  · omega)
                clear hs3 hb3 hg3 x0 x1 x2 x3 x4 x5
                have x4 := HO3.out.cell 4 (.int .i64 us) rfl
                obtain ⟨q0, q1, q2, q3, q4⟩ := oneC_at H i hi
                have a3 : w3.cell? ⟨rg, i * 5 + 4, none⟩ = some (.bool H[i].2) := HR3.out.cell (by rw [Nat.mul_comm i 5]; exact q4)
                have f3 : w3.frozen? ⟨rg, i * 5 + 4, none⟩ = false := HR3.out.froz _
                have hiI : (i : Int) < (H.length : Int) := by omega
                have HSET := Lib.hid (HR3.out.set hi (by decide : 4 < 5) (H[i].1, true) (.bool true) rfl (fun e he => by
                  match e, he with
                  | 0, _ => rfl
                  | 1, _ => rfl
                  | 2, _ => rfl
                  | 3, _ => rfl
                  | 4, h => exact absurd rfl h
                  | e + 5, _ => rfl))
                have HRB : Hid (Beside (fun k => k = rg) w3 (w3.setCell ⟨rg, i * 5 + 4, none⟩ (.bool true))) := Lib.hid ((Beside.refl (fun k => k = rg) w3).setCell (p := ⟨rg, i * 5 + 4, none⟩) (.inl rfl) _)
                have HRGB : Hid (w.heap.size ≤ rg) := Lib.hid (by obtain ⟨-, cur, -, h, -⟩ := HR3.out.at; exact h)
                have HSN := Lib.hid (HS3.out.beside HRB.out (fun k hk e => HS3.out.apartH HR3.out k hk (by rw [e]; rfl)))
                clear q0 q1 q2 q3 q4
                go_wp2_with fail
                go_meet
                exact ⟨c, cap3, r3, E, L', _, by omega, by have := HB3.out.size; have := HRB.out.size; omega, HSN.out, HSET.out, HLOW.out, HB3.out.trans (HRB.out.below (fun k hk => by subst hk; exact HRGB.out) HB3.out.size)⟩
          have e2 : (kind == 2) = false := by rw [beq_eq_false_iff_ne]; exact hk2
          by_cases hk3 : kind = 3
          · as_aux_lemma =>
              subst hk3
              cases hka : atH H vv uu with
              | none =>
                have hq : at? E vv uu = none := by have h := hats.out; rw [hka] at h; simpa using h.symm
                have e : kI none = -1 := rfl
                have HC := Lib.hid (drop_none HP2.out.sh vv uu hq)
                rw [e]
                clear hats hka hq
                go_wp2_with fail
                refine HC.out.mono ?_
                rintro e w3 ⟨rfl, hb3⟩
                have HPX := Lib.hid (HP2.out.below hb3 hs2)
                have HBX : Hid (w.heap.size ≤ w3.heap.size) := Lib.hid (Nat.le_trans hs2 hb3.size)
                clear hb3
                go_wp2_with fail
                go_meet
                exact ⟨c, cap, r, E, L, H, by omega, HBX.out, HPX.out⟩

              | some i =>
                have e : kI (some i) = (i : Int) := rfl
                obtain ⟨hi, rfl, rfl⟩ := at_of HP2.out.sh.rel hka
                have hi0 : decide ((0 : Int) ≤ (i : Int)) = true := decide_eq_true (by omega)
                have HC := Lib.hid (drop_some HP2.out.sh hi)
                obtain ⟨ra, rc, hrv, hrc1, hrc2, hrg⟩ := HP2.out.row.shape
                obtain ⟨rg, rfl⟩ := hrg (by omega)
                subst hrv
                rw [e]
                clear hats hka
                go_wp2_with fail
                refine HC.out.mono ?_
                rintro e w3 ⟨rfl, L', hs3, hb3⟩
                have HS3 := Lib.hid hs3
                have HR3 := Lib.hid (HP2.out.row.beside hb3 (HP2.out.sh.apartH HP2.out.row))
                have HB3 : Hid (Below w.heap.size w w3) := Lib.hid (HP2.out.bel.trans (hb3.below HP2.out.low hs2))
                have HLOW : Hid (∀ k, shOwn pa w.heap.size r (E.eraseIdx i) k → w.heap.size ≤ k) := Lib.hid (fun k hk => HP2.out.low k (shOwn_erase hk))
                have HRGB : Hid (w.heap.size ≤ rg) := Lib.hid (by obtain ⟨-, cur, -, h, -⟩ := HR3.out.at; exact h)
                have HEL : Hid ((E.eraseIdx i).length ≤ E.length) := Lib.hid (by rw [List.length_eraseIdx]; split <;> omega)
                clear hs3 hb3 x0 x1 x2 x3 x4 x5
                have i0 : (i : Int) ≤ (H.length : Int) := by omega
                have i1 : (i : Int) ≤ (rc : Int) := by omega
                obtain ⟨m1, hm1⟩ : ∃ m1, i + 1 = m1 := ⟨_, rfl⟩
                have i2 : (i : Int) + 1 = (m1 : Int) := by omega
                have i3 : (m1 : Int) ≤ (H.length : Int) := by omega
                have i4 : (H.length : Int) ≤ (rc : Int) := by omega
                have hH6 : H.length ≤ 200 := by have := HHE.out; omega
                have i5 : IntKind.i64.wrap (m1 : Int) = (m1 : Int) := wrapS (by omega) (by omega)
                have HCUT : Hid (∃ v2 w2, (Builtin.append_ #[28, 28] 28 #[.slice (some ⟨rg, 0, none⟩) i i, .slice (if rc = m1 then some ⟨rg, 0, none⟩ else some ⟨rg, m1 * 5, none⟩) (H.length - m1) (rc - m1)]).run Try.prog w3.drew = .ok v2 w2 ∧ HRow w2 w.heap.size v2 (H.eraseIdx i) ∧ Beside (fun k => k = rg) w3.drew w2) := Lib.hid (by
                  subst hm1
                  have hrd : HRow w3.drew w.heap.size (.slice (some ⟨rg, 0, none⟩) H.length rc) H := HR3.out
                  have hbd : w.heap.size ≤ w3.drew.heap.size := HB3.out.size
                  split
                  · exact run_cutH (w := w3.drew) hrd 28 i i (rc - (i + 1)) ⟨rg, 0, none⟩ (.inr (by omega)) hi (Nat.le_refl _) (by omega) (by omega) hbd
                  · exact run_cutH (w := w3.drew) hrd 28 i i (rc - (i + 1)) ⟨rg, (i + 1) * 5, none⟩ (.inl rfl) hi (Nat.le_refl _) (by omega) (by omega) hbd)
                clear hH6
                go_wp2_with fail
                go_still_tail 8, (by kernel_rfl)
                change wpList Try.prog _ _ _ _ w3.drew
                have HBD : Hid (Beside (fun k => k = rg) w3 w3.drew) := Lib.hid ((Beside.refl _ w3).drew)
                generalize w3.drew = wd at *
                generalize (if rc = m1 then some (⟨rg, 0, none⟩ : Addr) else some ⟨rg, m1 * 5, none⟩) = ad at *
                refine wpList_appH (v := .slice (some ⟨rg, 0, none⟩) i i) (y := .slice ad (H.length - m1) (rc - m1)) (R := fun v2 w2 => HRow w2 w.heap.size v2 (H.eraseIdx i) ∧ Beside (fun k => k = rg) wd w2) rfl (.tmp 149) (.tmp 153) rfl rfl rfl HCUT.out ?_
                rintro v2 w4 ⟨h4, hb4⟩
                have H4 := Lib.hid h4
                have HB4 : Hid (Beside (fun k => k = rg) w3 w4) := Lib.hid (HBD.out.trans hb4)
                have HSN := Lib.hid (HS3.out.beside HB4.out (fun k hk e => HS3.out.apartH HR3.out k hk (by rw [e]; rfl)))
                clear h4 hb4
                go_wp2_with fail
                go_meet
                exact ⟨c, cap, r, E.eraseIdx i, L', H.eraseIdx i, by have := HEL.out; omega, by have := HB3.out.size; have := HB4.out.size; omega, HSN.out, H4.out, HLOW.out, HB3.out.trans (HB4.out.below (fun k hk => by subst hk; exact HRGB.out) HB3.out.size)⟩
          have e3 : (kind == 3) = false := by rw [beq_eq_false_iff_ne]; exact hk3
          by_cases hk4 : kind = 4
          · as_aux_lemma =>
              subst hk4
              have HRL := Lib.hid HP2.out.sh.rel
              have HC := Lib.hid (evictL_any HP2.out.sh.rel bud w.heap.size u7 w2 HP2.out.row)
              have HGN := Lib.hid HP2.out.sh.gone
              clear hats x0 x1 x2 x3 x4 x5
              go_wp2_with fail
              refine HC.out.mono ?_
              rintro e w3 ⟨gv, lv, rfl, H3, hg3, hr3, hrel3, hsub3, hb3⟩
              have HS3 := Lib.hid (HP2.out.sh.below hb3)
              have HG3 := Lib.hid hg3
              have HR3 := Lib.hid hr3
              have HREL3 := Lib.hid hrel3
              have HSUB3 := Lib.hid hsub3
              have HB3 : Hid (Below w.heap.size w w3) := Lib.hid (HP2.out.bel.trans (hb3.mono hs2))
              clear hg3 hr3 hrel3 hsub3 hb3
              go_wp2_with fail
              refine (evictSh2 HS3.out HREL3.out HSUB3.out).mono ?_
              rintro e w4 ⟨sv, cap4, rfl, ho4, hs4, hb4, hg4⟩
              have HS4 := Lib.hid hs4
              have hG4 := owns_beside' HG3.out hb4 (fun k hk => HS3.out.apart HG3.out (by decide) k (HS3.out.own hk))
              have HR4 := Lib.hid (HR3.out.beside hb4 (fun k hk => HS3.out.apartH HR3.out k (HS3.out.own hk)))
              have HB4 : Hid (Below w.heap.size w w4) := Lib.hid (HB3.out.trans (hb4.below (fun k hk => HP2.out.low k (HS3.out.own hk)) HB3.out.size))
              have HLOW : Hid (∀ k, shOwn pa w.heap.size r (evS bud E L).1 k → w.heap.size ≤ k) := Lib.hid (fun k hk => HP2.out.low k (hg4 k hk))
              have HPL2 := Lib.hid (plainI_any ho4 hG4 HGN.out)
              clear hs4 hb4 hg4 ho4 hG4
              go_wp2_with fail
              refine HPL2.out.mono ?_
              rintro e w5 ⟨rfl, hb5⟩
              have HS5 := Lib.hid (HS4.out.below hb5)
              have HR5 := Lib.hid (HR4.out.below hb5)
              have HB5 : Hid (Below w.heap.size w w5) := Lib.hid (HB4.out.trans (hb5.mono HB4.out.size))
              have HEL : Hid ((evS bud E L).1.length ≤ E.length) := Lib.hid (by
                obtain ⟨-, h2, -⟩ := evS_facts bud L.length E L rfl HRL.out.good
                omega)
              clear hb5
              go_wp2_with fail
              go_meet
              exact ⟨c, cap4, r, _, _, H3, by have := HEL.out; omega, HB5.out.size, HS5.out, HR5.out.mono hs2, HLOW.out, HB5.out⟩
          have e4 : (kind == 4) = false := by rw [beq_eq_false_iff_ne]; exact hk4
          clear hk1 hk2 hk3 hk4
          by_cases hs0 : sz < 0
          · as_aux_lemma =>
              have HSB : sz < 0 ∨ sz > 1048576 := .inl hs0
              have HC := Lib.hid (put_arg pa vv uu sz us cl w2 HSB)
              clear hats
              go_wp2_with fail
              refine HC.out.mono ?_
              rintro e w3 ⟨rfl, hb3⟩
              have HPX := Lib.hid (HP2.out.below hb3 hs2)
              have HBX : Hid (w.heap.size ≤ w3.heap.size) := Lib.hid (Nat.le_trans hs2 hb3.size)
              clear hb3
              go_wp2_with fail

              go_meet
              exact ⟨c, cap, r, E, L, H, by omega, HBX.out, HPX.out⟩

          by_cases hs1 : sz > 1048576
          · as_aux_lemma =>
              have HSB : sz < 0 ∨ sz > 1048576 := .inr hs1
              have HC := Lib.hid (put_arg pa vv uu sz us cl w2 HSB)
              clear hats
              go_wp2_with fail
              refine HC.out.mono ?_
              rintro e w3 ⟨rfl, hb3⟩
              have HPX := Lib.hid (HP2.out.below hb3 hs2)
              have HBX : Hid (w.heap.size ≤ w3.heap.size) := Lib.hid (Nat.le_trans hs2 hb3.size)
              clear hb3
              go_wp2_with fail

              go_meet
              exact ⟨c, cap, r, E, L, H, by omega, HBX.out, HPX.out⟩

          cases hka : atH H vv uu with
          | some i =>
            as_aux_lemma =>
              have e : kI (some i) = (i : Int) := rfl
              have hi0 : decide ((0 : Int) ≤ (i : Int)) = true := decide_eq_true (by omega)
              obtain ⟨y, hq⟩ : ∃ y, at? E vv uu = some (i, y) := by
                have h := hats.out
                rw [hka] at h
                cases hq : at? E vv uu with
                | none => rw [hq] at h; cases h
                | some z =>
                  rw [hq] at h
                  simp only [Option.map_some, Option.some.injEq] at h
                  exact ⟨z.2, by rw [h]⟩
              have HC := Lib.hid (putSh_twice HP2.out.sh vv uu sz us cl hq (by omega) (by omega))
              rw [e]
              clear hats hka hq
              go_wp2_with fail
              refine HC.out.mono ?_
              rintro e w3 ⟨rfl, hb3⟩
              have HPX := Lib.hid (HP2.out.below hb3 hs2)
              have HBX : Hid (w.heap.size ≤ w3.heap.size) := Lib.hid (Nat.le_trans hs2 hb3.size)
              clear hb3
              go_wp2_with fail
              go_meet
              exact ⟨c, cap, r, E, L, H, by omega, HBX.out, HPX.out⟩

          | none =>
            as_aux_lemma =>
              have e : kI none = -1 := rfl
              have hq : at? E vv uu = none := by have h := hats.out; rw [hka] at h; simpa using h.symm
              have HQ := Lib.hid hq
              rw [e]
              clear hats hka hq
              have hH6 : H.length ≤ 999999 := by have := HHE.out; omega
              go_wp2_with (at_builtin
                           refine appP rfl (.tmp 65) (.tmp 75) rfl rfl rfl (by simp) HP2.out.row hs2 hH6 ?_
                           intro v3 w3 h3 hb3
                           have H3 := Lib.hid h3
                           have HB3 := Lib.hid hb3
                           clear h3 hb3
                           clear x0 x1 x2 x3 x4 x5
                           have HO3 := Lib.hid (At.beside HO2.out HB3.out HNL.out)
                           have x1 := HO3.out.cell 1 (.int .u32 vv) rfl
                           have x2 := HO3.out.cell 2 (.int .u32 uu) rfl
                           have x3 := HO3.out.cell 3 (.int .i64 sz) rfl
                           have x4 := HO3.out.cell 4 (.int .i64 us) rfl
                           have x5 := HO3.out.cell 5 (.bool cl) rfl)
              have HS3 := Lib.hid (HP2.out.sh.beside HB3.out (fun k hk e => HP2.out.sh.apartH HP2.out.row k hk e))
              have HW3 : Hid (Below w.heap.size w w3) := Lib.hid (HP2.out.bel.trans (HB3.out.below (fun k hk => (HP2.out.row.block hk).1) hs2))
              refine (putSh_new HS3.out vv uu sz us cl HQ.out (by omega) (by omega) (by omega)).mono ?_
              rintro e w4 ⟨rfl, t, cap', r', E', L', ht1, ht2, ht3, ht4, hE', hs4, hb4, hg4⟩
              have HS4 := Lib.hid hs4
              have HR4 : Hid (HRow w4 w.heap.size v3 (H ++ [(t, cl)])) := Lib.hid (HRow.congr (by simp [oneC, ht1, ht2, ht3, ht4]) (H3.out.beside hb4 (fun k hk => HS3.out.apartH H3.out k (HS3.out.own hk))))
              have HW4 : Hid (Below w.heap.size w w4) := Lib.hid (HW3.out.trans (hb4.below (fun k hk => HP2.out.low k (HS3.out.own hk)) HW3.out.size))
              have HLOW : Hid (∀ k, shOwn pa w.heap.size r' E' k → w.heap.size ≤ k) := Lib.hid (fun k hk => by
                rcases hg4 k hk with h | h
                · exact HP2.out.low k h
                · exact Nat.le_trans HW3.out.size h)
              clear hs4 hb4 hg4 ht1 ht2 ht3 ht4
              go_wp2_with fail
              go_meet
              have HLE : E'.length ≤ n1 := by have h1 := hE'; have h2 := hn1; have h3 := hE; omega
              exact ⟨c + 1, cap', r', E', L', H ++ [(t, cl)], HLE, HW4.out.size, ⟨HS4.out, HR4.out, HLOW.out, HW4.out⟩⟩
      · have hi1 : ¬ (k : Int) < 200 := by omega
        obtain rfl : k = 200 := by omega
        go_wp2_with fail
        go_meet
        exact HPL.out
    · have hii : ¬ (k : Int) < (l.length : Int) := by omega
      go_wp2_with fail
      go_meet
      obtain ⟨c, cap, r, E, L, H, hE, hp⟩ := HPL.out
      exact ⟨c, cap, r, E, L, H, by omega, hp⟩
end shelfPlays
end Go.Proofs.Ythmnbjdmbajhkaa
