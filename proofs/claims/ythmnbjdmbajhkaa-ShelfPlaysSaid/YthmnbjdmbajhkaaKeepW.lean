/-
  ShelfKeeps, the walk.
-/
import Derived.Test.YthmnbjdmbajhkaaKeepI
import Derived.Deep.CutBlock
namespace Go.Proofs.Ythmnbjdmbajhkaa
set_option linter.unusedVariables false
open Go.RowKit
attribute [local go_sem] Oper.semAt_some

theorem modN (n : Nat) (h1 : 0 < n) (h2 : n ≤ 1000000) (x : Int) : ∃ a : Nat, a < n ∧ wrap64 ((IntKind.u64.wrap x).tmod n) = (a : Int) := by
  have h0 : 0 ≤ IntKind.u64.wrap x := by rw [IntKind.wrap_u64]; exact Int.emod_nonneg _ (by decide)
  generalize IntKind.u64.wrap x = y at *
  rw [Int.tmod_eq_emod_of_nonneg h0]
  have h3 := Int.emod_nonneg y (show (n : Int) ≠ 0 by omega)
  have h4 := Int.emod_lt_of_pos y (show (0 : Int) < (n : Int) by omega)
  refine ⟨(y % n).toNat, by omega, ?_⟩
  unfold wrap64
  omega

theorem owns_shape {w : World} {B e size n : Nat} {v : Value} {xs : List Value} (h : w.ownsRow B e size v n xs) :
    ∃ a cap, v = .slice a n cap ∧ n ≤ cap ∧ (0 < n → ∃ g, a = some ⟨g, 0, none⟩) := by
  rcases h.2 with ⟨hv, h0⟩ | ⟨g, cap, cur, hv, hb, hh, hn, hm, _⟩
  · exact ⟨none, 0, by rw [hv, h0], by omega, fun h => by omega⟩
  · exact ⟨_, cap, hv, hn, fun _ => ⟨g, rfl⟩⟩

namespace shelfKeeps
set_option maxRecDepth 100000 in
set_option maxHeartbeats 8000000 in
theorem walk (w : World) (bud : Int) (wb : (Lit.int .i64 bud).wf = true) (v : Value) (l : List OpD) (hr : RowO w v l) : Calls Try.prog 4 #[.int .i64 bud, v] w fun e w' => e = .returned (.bool true) ∧ Below w.heap.size w w' := by
  obtain ⟨av, lcap, rfl, hl1, hl2, hl3, hl4⟩ := hr
  have HL4 := Lib.hid hl4
  have HL3 := Lib.hid hl3
  clear hl4 hl3
  go_enter Try.func4, Try.ntmps4
  go_wp2_with fail
  obtain ⟨bn, hbn, eb⟩ : ∃ a : Nat, a < 2000 ∧ wrap64 ((IntKind.u64.wrap bud).tmod 2000) = (a : Int) := modN 2000 (by decide) (by decide) bud
  generalize wrap64 ((IntKind.u64.wrap bud).tmod 2000) = zb at *
  subst eb
  refine (new_any (bn : Int) w (by omega) (by omega)).mono ?_
  rintro e w1 ⟨rfl, rfl⟩
  have HS0 := Lib.hid (new_shelf (bn : Int) w)
  have HB0 : Hid (Below w.heap.size w ((w.alloc (.map #[] 0)).alloc (.cells #[.int .i64 (bn : Int), .int .i64 0, .map (some w.heap.size), .slice none 0 0] 56))) := Lib.hid (((Below.refl _ _).alloc (Nat.le_refl _) _).alloc (by simp) _)
  have HM : Hid (w.heap.size < w.heap.size + 1) := Lib.hid (by omega)
  generalize ((w.alloc (.map #[] 0)).alloc (.cells #[.int .i64 (bn : Int), .int .i64 0, .map (some w.heap.size), .slice none 0 0] 56)) = w1 at *
  generalize hp : w.heap.size + 1 = p at *
  go_wp2_with fail
  refine (awake_any w1).mono ?_
  rintro e w2 ⟨rfl, hb2⟩
  have HK0 : Hid (Keep w.heap.size w2 p w.heap.size 0 (bn : Int) none 0 [] [] [] (.slice none 0 0) []) := Lib.hid (Keep.below ⟨HS0.out, good_nil, like_nil, (by
    rintro k (rfl | rfl | ⟨_, h, _⟩ | ⟨_, h, _⟩)
    · have := HM.out; omega
    · exact Nat.le_refl _
    · cases h
    · cases h), World.ownsRow_nil _ _ _ _, Nat.le_refl _⟩ hb2)
  have HB2 := Lib.hid (HB0.out.trans (hb2.mono HB0.out.size))
  clear hb2 HB0 HS0
  go_upto_block 0 with fail
  go_cut [7, 8] (fun hv iv wr => ∃ (c cap : Nat) (r : Option Addr) (E : List (Th × Nat)) (L : List Th) (H : List (Th × Bool)), E.length ≤ 100 ∧ Keep w.heap.size wr p w.heap.size c (bn : Int) r cap E L H hv H ∧ Below w.heap.size w wr)
  case rest =>
    obtain ⟨c, cap, r, E, L, H, hE100, hk, hb⟩ := hcut
    have HK := Lib.hid hk
    have HB := Lib.hid hb
    clear hk hb
    have hLE := HK.out.len
    go_wp2_with fail
    refine (evict_any p w.heap.size c (bn : Int) r cap E L wc HK.out.sh HK.out.good (by omega) HK.out.sh.not_p HK.out.sh.not_m).mono ?_
    rintro e w5 ⟨gv, rfl, ho5, ⟨cap5, hs5⟩, hg5, hm5, hb5⟩
    obtain ⟨f1, f2, f3⟩ := keeps (bn : Int) HK.out.good HK.out.like
    obtain ⟨q1, -, q3, -⟩ := evS_facts (bn : Int) L.length E L rfl HK.out.good
    have HAG := Lib.hid (evS_again q1)
    have hGL : (evS (bn : Int) E L).2.2.length ≤ 100 := by
      have := q3.length_eq
      simp only [List.length_append] at this
      omega
    have hH100 : H.length ≤ 100 := by have := HK.out.like.len; omega
    have HH5 : Hid (w5.ownsRow w.heap.size 37 5 u7 H.length (oneC H)) := Lib.hid (owns_beside' HK.out.row hb5 (HK.out.sh.apart HK.out.row (by decide)))
    have HB5 : Hid (Below w.heap.size w w5) := Lib.hid (HB.out.trans (hb5.below HK.out.low HB.out.size))
    generalize (evS (bn : Int) E L).2.2 = G at *
    generalize (evS (bn : Int) E L).2.1 = L1 at *
    generalize (evS (bn : Int) E L).1 = E1 at *
    have HG5 := Lib.hid ho5
    have HS5 := Lib.hid hs5
    have HGD := Lib.hid hg5
    have HF1 := Lib.hid f1
    have HF2 := Lib.hid f2
    have HF3 := Lib.hid f3
    have hL1 : L1.length ≤ 65536 := by
      have := q3.length_eq
      simp only [List.length_append] at this
      omega
    have HLOW : Hid (∀ k, evOwn p w.heap.size r L1 k → w.heap.size ≤ k) := Lib.hid (fun k hk => HK.out.low k (by
      rcases hk with h | h | h
      · exact .inl h
      · exact .inr (.inl h)
      · exact .inr (.inr (sOwn_mono hm5 h))))
    clear ho5 hs5 hg5 hm5 hb5 f1 f2 f3 q1 q3 HK HB
    obtain ⟨ha, hcap, rfl, -⟩ := owns_shape HH5.out
    obtain ⟨ga, gcap, rfl, -⟩ := owns_shape HG5.out
    go_wp2_with fail
    go_loopw [12, 13] (fun cv iv wr => ∃ i : Nat, iv = .int .i64 i ∧ i ≤ H.length ∧ cv = .int .i64 (cntK G (H.take i) : Int) ∧ cntK G (H.take i) ≤ i ∧ Below w5.heap.size w5 wr) (fun _ iv _ => H.length - (RowKit.intOf iv).toNat)
    case atStart => exact ⟨0, rfl, Nat.zero_le _, rfl, by simp [cntK], Below.refl _ _⟩
    case round =>
      obtain ⟨i, rfl, hi, rfl, hcn, hb⟩ := hrel
      have HB := Lib.hid hb
      clear hb
      by_cases hlt : i < H.length
      · have hii : (i : Int) < (H.length : Int) := by omega
        obtain ⟨hg, rfl⟩ : ∃ g, ha = some ⟨g, 0, none⟩ := by
          obtain ⟨_, _, e, _, h⟩ := owns_shape HH5.out
          cases e
          exact h (by omega)
        have hrow := owns_beside' (own := fun _ => False) HH5.out (Below.beside HB.out) (fun _ h => h.elim)
        have hgv := owns_beside' (own := fun _ => False) HG5.out (Below.beside HB.out) (fun _ h => h.elim)
        obtain ⟨g0, g1, g2, g3, g4⟩ := oneC_at H i hlt
        have e0 : wr.cell? ⟨hg, i * 5, none⟩ = some (.int .u32 H[i].1.v) := (World.ownsRow.cellAt hrow (i * 5) (by omega)).trans (by rw [Nat.mul_comm i 5]; exact g0)
        have e1 : wr.cell? ⟨hg, i * 5 + 1, none⟩ = some (.int .u32 H[i].1.u) := (World.ownsRow.cellAt hrow (i * 5 + 1) (by omega)).trans (by rw [Nat.mul_comm i 5]; exact g1)
        have e4 : wr.cell? ⟨hg, i * 5 + 4, none⟩ = some (.bool H[i].2) := (World.ownsRow.cellAt hrow (i * 5 + 4) (by omega)).trans (by rw [Nat.mul_comm i 5]; exact g4)
        have hf := HF1.out H[i] (List.getElem_mem hlt)
        have hcs : cntK G (H.take (i + 1)) = cntK G (H.take i) + (if (!inG G H[i].1.v H[i].1.u && H[i].2) = true then 1 else 0) := by
          rw [List.take_succ_eq_append_getElem hlt, cntK_snoc]
        have HIN := Lib.hid (in_row _ _ G H[i].1.v H[i].1.u wr hgv (by omega))
        have HE4 := Lib.hid e4
        generalize H[i].1.v = hv at *
        generalize H[i].1.u = hu at *
        generalize H[i].2 = hq at *
        generalize cntK G (H.take i) = cn at *
        have hcl : hg < wr.heap.size := World.block_lt_of_cell? wr _ e0
        clear hrow hgv g0 g1 g2 g3 g4 e4
        go_wp2_with fail
        refine HIN.out.mono ?_
        rintro e w6 ⟨rfl, hb6⟩
        have e4 : w6.cell? ⟨hg, i * 5 + 4, none⟩ = some (.bool hq) := (hb6.cell (p := ⟨hg, i * 5 + 4, none⟩) hcl).trans HE4.out
        have HB6 : Hid (Below w5.heap.size w5 w6) := Lib.hid (HB.out.trans (hb6.mono HB.out.size))
        have HCS := Lib.hid hcs
        clear hb6 e0 e1 hcs
        cases hin : inG G hv hu
        · rw [hin] at HCS
          cases hq
          · go_wp2_with fail
            go_roundw
            case rel => exact ⟨i + 1, by go_num, hlt, by rw [HCS.out]; rfl, by rw [HCS.out]; simp; omega, HB6.out⟩
            case measure => simp [RowKit.intOf]; omega
          · go_wp2_with fail
            go_roundw
            case rel => exact ⟨i + 1, by go_num, hlt, by rw [HCS.out]; go_num, by rw [HCS.out]; simp; omega, HB6.out⟩
            case measure => simp [RowKit.intOf]; omega
        · rw [hin] at HCS hf
          obtain rfl := hf rfl
          go_wp2_with fail
          go_roundw
          case rel => exact ⟨i + 1, by go_num, hlt, by rw [HCS.out]; rfl, by rw [HCS.out]; simp; omega, HB6.out⟩
          case measure => simp [RowKit.intOf]; omega
      · have hii : ¬ (i : Int) < (H.length : Int) := by omega
        obtain rfl : i = H.length := by omega
        rw [List.take_length] at *
        have HS6 : Hid (ShB wr p w.heap.size c (bn : Int) r cap5 E1 L1) := Lib.hid (HS5.out.beside (own := fun _ => False) (Below.beside HB.out) (fun _ _ h => h))
        have HB6 : Hid (Below w.heap.size w wr) := Lib.hid (HB5.out.trans (HB.out.mono HB5.out.size))
        have hsub : (H.length : Int) - (G.length : Int) = (E1.length : Int) := by have := HF3.out; omega
        have hE1 : E1.length ≤ 100 := by have := HF3.out; omega
        have HSZ := Lib.hid (size_any p w.heap.size c (bn : Int) r cap5 E1 L1 wr HS6.out)
        have HEV : Hid (∀ w7, Below wr.heap.size wr w7 → Calls Try.prog 15 #[.pointer (some ⟨p, 0, none⟩)] w7 fun e w8 => ∃ a cap', e = .returned (.slice a 0 cap') ∧ (∃ cap5, ShB w8 p w.heap.size c (bn : Int) r cap5 E1 L1) ∧ Below w.heap.size w w8) := Lib.hid (fun w7 hb7 => by
          have hs7 : ShB w7 p w.heap.size c (bn : Int) r cap5 E1 L1 := HS6.out.beside (own := fun _ => False) (Below.beside hb7) (fun _ _ h => h)
          refine (evict_any p w.heap.size c (bn : Int) r cap5 E1 L1 w7 hs7 HGD.out hL1 hs7.not_p hs7.not_m).mono ?_
          rw [HAG.out]
          rintro e w8 ⟨v, rfl, ho, hs, -, -, hb⟩
          obtain ⟨a, cap', rfl, -⟩ := owns_shape ho
          have hB7 : Below w.heap.size w w7 := HB6.out.trans (hb7.mono HB6.out.size)
          exact ⟨a, cap', rfl, hs, hB7.trans (hb.below HLOW.out hB7.size)⟩)
        by_cases h0 : sumE E1 ≤ (bn : Int)
        · generalize sumE E1 = S1 at *
          go_wp2_with fail
          refine HSZ.out.mono ?_
          rintro e w7 ⟨rfl, hb7⟩
          have HC := Lib.hid (HEV.out w7 hb7)
          clear hb7
          go_wp2_with fail
          refine HC.out.mono ?_
          rintro e w8 ⟨a8, cap8, rfl, ⟨cap9, hs8⟩, hb8⟩
          have HB8 := Lib.hid hb8
          have HCN := Lib.hid (count_any p w.heap.size c (bn : Int) r cap9 E1 L1 w8 hs8)
          clear hs8 hb8
          go_wp2_with fail
          refine HCN.out.mono ?_
          rintro e w9 ⟨rfl, hb9⟩
          have HB9 : Hid (Below w.heap.size w w9) := Lib.hid (HB8.out.trans (hb9.mono HB8.out.size))
          clear hb9
          go_wp2_with fail
          go_ret
          exact ⟨rfl, HB9.out⟩
        · have h2 := HF2.out.resolve_left h0
          generalize cntK G H = cn at *
          subst h2
          generalize sumE E1 = S1 at *
          go_wp2_with fail
          refine HSZ.out.mono ?_
          rintro e w7 ⟨rfl, hb7⟩
          have HC := Lib.hid (HEV.out w7 hb7)
          clear hb7
          go_wp2_with fail
          refine HC.out.mono ?_
          rintro e w8 ⟨a8, cap8, rfl, ⟨cap9, hs8⟩, hb8⟩
          have HB8 := Lib.hid hb8
          have HCN := Lib.hid (count_any p w.heap.size c (bn : Int) r cap9 E1 L1 w8 hs8)
          clear hs8 hb8
          go_wp2_with fail
          refine HCN.out.mono ?_
          rintro e w9 ⟨rfl, hb9⟩
          have HB9 : Hid (Below w.heap.size w w9) := Lib.hid (HB8.out.trans (hb9.mono HB8.out.size))
          clear hb9
          go_wp2_with fail
          go_ret
          exact ⟨rfl, HB9.out⟩
  go_wp2_with fail
  go_loopw [7, 8] (fun hv iv wr => ∃ (k c cap : Nat) (r : Option Addr) (E : List (Th × Nat)) (L : List Th) (H : List (Th × Bool)), iv = .int .i64 k ∧ k ≤ l.length ∧ k ≤ 100 ∧ E.length ≤ k ∧ Keep w.heap.size wr p w.heap.size c (bn : Int) r cap E L H hv H ∧ Below w.heap.size w wr) (fun _ iv _ => l.length - (RowKit.intOf iv).toNat)
  case atStart => exact ⟨0, 0, 0, none, [], [], [], rfl, by omega, by omega, by simp, HK0.out, HB2.out⟩
  case round =>
    obtain ⟨k, c, cap, r, E, L, H, rfl, hkl, hk100, hEk, hkeep, hbw⟩ := hrel
    have HK := Lib.hid hkeep
    have HB := Lib.hid hbw
    clear hkeep hbw
    by_cases hlt : k < l.length
    · have hii : (k : Int) < (l.length : Int) := by omega
      by_cases h100 : k < 100
      · have hi1 : (k : Int) < 100 := by omega
        obtain ⟨g, q, hx⟩ : ∃ g q, av = some ⟨g, q, none⟩ := by
          cases hav : av with
          | none => have := HL3.out hav; omega
          | some x =>
            obtain ⟨g, q, s⟩ := x
            have := World.cell?_spot (HL4.out _ hav 0 (by omega)).c0
            have hs : s = none := by simpa [Addr.add] using this
            exact ⟨g, q, by rw [hs]⟩
        have ho := HL4.out _ hx k hlt
        subst hx
        obtain ⟨o, hoo⟩ : ∃ o, l[k] = o := ⟨_, rfl⟩
        rw [hoo] at ho
        clear hoo
        obtain ⟨kind, vv, uu, sz, us, cl⟩ := o
        obtain ⟨o0, o1, o2, o3, o4, o5, -, -⟩ := ho
        have key : ∀ {q : Addr} {z : Value}, w.cell? q = some z → wr.cell? q = some z := fun {q z} hq => (HB.out.cell (World.block_lt_of_cell? w _ hq)).trans hq
        replace o0 : wr.cell? ⟨g, q + k * 6, none⟩ = some (.int .i64 kind) := key (by rw [← Addr.add_lit]; exact o0)
        replace o1 : wr.cell? ⟨g, q + k * 6 + 1, none⟩ = some (.int .u32 vv) := key (by rw [Nat.add_assoc, ← Addr.add_lit]; exact o1)
        replace o2 : wr.cell? ⟨g, q + k * 6 + 2, none⟩ = some (.int .u32 uu) := key (by rw [Nat.add_assoc, ← Addr.add_lit]; exact o2)
        replace o3 : wr.cell? ⟨g, q + k * 6 + 3, none⟩ = some (.int .i64 sz) := key (by rw [Nat.add_assoc, ← Addr.add_lit]; exact o3)
        replace o4 : wr.cell? ⟨g, q + k * 6 + 4, none⟩ = some (.int .i64 us) := key (by rw [Nat.add_assoc, ← Addr.add_lit]; exact o4)
        replace o5 : wr.cell? ⟨g, q + k * 6 + 5, none⟩ = some (.bool cl) := key (by rw [Nat.add_assoc, ← Addr.add_lit]; exact o5)
        clear key
        obtain ⟨n, hn, en⟩ : ∃ a : Nat, a < 500 ∧ wrap64 ((IntKind.u64.wrap sz).tmod 500) = (a : Int) := modN 500 (by decide) (by decide) sz
        go_wp2_with fail
        generalize wrap64 ((IntKind.u64.wrap sz).tmod 500) = zn at *
        subst en
        have HKA := Lib.hid (HK.out.below ((Below.refl _ _).alloc (Nat.le_refl _) (.cells #[.int .i64 kind, .int .u32 vv, .int .u32 uu, .int .i64 sz, .int .i64 us, .bool cl] 33)))
        have HOA := Lib.hid (heap_alloc_new wr (.cells #[.int .i64 kind, .int .u32 vv, .int .u32 uu, .int .i64 sz, .int .i64 us, .bool cl] 33))
        have HNO : Hid (¬ evOwn p w.heap.size r L wr.heap.size) := Lib.hid (fun h => by
          rcases h with h | h | h
          · have := HK.out.sh.row.lt; omega
          · have := At.lt HK.out.sh.map; omega
          · have := HK.out.sh.ord.lt h; omega)
        have HBA : Hid (Below w.heap.size w (wr.alloc (.cells #[.int .i64 kind, .int .u32 vv, .int .u32 uu, .int .i64 sz, .int .i64 us, .bool cl] 33))) := Lib.hid (HB.out.alloc HB.out.size _)
        generalize wr.alloc (.cells #[.int .i64 kind, .int .u32 vv, .int .u32 uu, .int .i64 sz, .int .i64 us, .bool cl] 33) = wa at *
        clear o0 o1 o2 o3 o4 o5
        cases hq : at? E vv uu with
        | none =>
          have hS := sumE_bound HKA.out.good.rng
          have hLE := HKA.out.len
          refine (put_new p w.heap.size c (bn : Int) (sumE E) vv uu (n : Int) us cl r cap E L wa HKA.out.sh.row HKA.out.sh.map HKA.out.sh.ord hq (by omega) (by omega) (by omega) (by omega) (wrapS (by omega) (by omega)) HKA.out.sh.not_p HKA.out.sh.not_m (fun k hk => HKA.out.sh.ord.lt hk)).mono ?_
          rintro e w3 ⟨rfl, hd⟩
          obtain ⟨t, cap', r', E', L', rfl, rfl, htn, rfl, hE', hk3, hb3⟩ := HKA.out.put hq (by omega) (by omega) (by omega) HBA.out.size hd
          have HK3 := Lib.hid hk3
          have HO3 := At.beside HOA.out hb3 HNO.out
          have HB3 : Hid (Below w.heap.size w w3) := Lib.hid (HBA.out.trans (hb3.below HKA.out.low HBA.out.size))
          have x1 := HO3.cell 1 (.int .u32 t.v) rfl
          have x2 := HO3.cell 2 (.int .u32 t.u) rfl
          have x4 := HO3.cell 4 (.int .i64 t.used) rfl
          have x5 := HO3.cell 5 (.bool cl) rfl
          have HTN := Lib.hid htn
          have HQ := Lib.hid hq
          have hsz : w.heap.size ≤ w3.heap.size := HB3.out.size
          have hHn : H.length ≤ 1000000 := by have := HK.out.like.len; omega
          clear hd hk3 hb3 hS hLE htn hq HO3
          go_wp2_with (at_builtin
                       refine appO rfl (.tmp 63) (.tmp 72) rfl rfl rfl (by simp) HK3.out.row hsz hHn ?_
                       intro v' w4 ho4 hb4
                       have HO4 := Lib.hid ho4
                       have HB4 : Hid (Below w.heap.size w w4) := Lib.hid (HB3.out.trans (hb4.below (fun k hk => (World.ownsRow.lt HK3.out.row k hk).1) hsz))
                       have HB4' := Lib.hid hb4
                       clear ho4 hb4)
          go_roundw
          case rel => exact ⟨k + 1, c + 1, cap', r', E', L', H ++ [(t, cl)], by go_num, hlt, by omega, by omega, HK3.out.app (x := (t, cl)) (by rw [HTN.out]; exact HO4.out) HB4'.out, HB4.out⟩
          case measure => simp [RowKit.intOf]; omega
        | some iy =>
          obtain ⟨i, y⟩ := iy
          refine (put_twice p w.heap.size c i _ vv uu (n : Int) us cl E y wa HKA.out.sh.row rfl HKA.out.sh.map hq (by omega) (by omega)).mono ?_
          rintro e w3 ⟨rfl, hb3⟩
          have HK3 := Lib.hid (HKA.out.below hb3)
          have HB3 : Hid (Below w.heap.size w w3) := Lib.hid (HBA.out.trans (hb3.mono HBA.out.size))
          clear hb3 hq
          go_wp2_with fail
          go_roundw
          case rel => exact ⟨k + 1, c, cap, r, E, L, H, by go_num, hlt, by omega, by omega, HK3.out, HB3.out⟩
          case measure => simp [RowKit.intOf]; omega
      · have hi1 : ¬ (k : Int) < 100 := by omega
        go_wp2_with fail
        go_meet
        exact ⟨c, cap, r, E, L, H, by omega, HK.out, HB.out⟩
    · have hii : ¬ (k : Int) < (l.length : Int) := by omega
      go_wp2_with fail
      go_meet
      exact ⟨c, cap, r, E, L, H, by omega, HK.out, HB.out⟩
end shelfKeeps
end Go.Proofs.Ythmnbjdmbajhkaa
