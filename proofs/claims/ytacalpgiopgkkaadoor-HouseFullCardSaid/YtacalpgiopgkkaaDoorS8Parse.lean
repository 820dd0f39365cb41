/-
  The contract of Parse: a right text.
-/
import Derived.Test.YtacalpgiopgkkaaDoorS8Month
import Derived.Test.YtacalpgiopgkkaaDoorS8Seconds
import Derived.WalkSpells
import Derived.Laws.ResultCell
namespace Go.Proofs.YtacalpgiopgkkaaDoor
namespace S8
set_option linter.unusedVariables false
open Go.RowKit

def firstS (s : ByteArray) : ByteArray := if (s.extract 0 1).toList == [32] then ⟨#[48]⟩ else s.extract 0 1
def fieldsS (s : ByteArray) : List ByteArray := [firstS s, s.extract 1 2, s.extract 7 11, s.extract 12 14, s.extract 15 17, s.extract 18 20, s.extract 22 24, s.extract 24 26]

def z7 : Array Value := #[.int .i64 0, .int .i64 0, .int .i64 0, .int .i64 0, .int .i64 0, .int .i64 0, .int .i64 0]

def St7 (y mo d h mi s z : Int) : Array Value := #[.int .i64 y, .int .i64 mo, .int .i64 d, .int .i64 h, .int .i64 mi, .int .i64 s, .int .i64 z]
/-- a stamp stored into a new block -/
def put7 (w : World) (b : Nat) (y mo d h mi s z : Int) : World :=
  ((((((w.setCell ⟨b, 0, none⟩ (.int .i64 y)).setCell ⟨b, 1, none⟩ (.int .i64 mo)).setCell ⟨b, 2, none⟩ (.int .i64 d)).setCell ⟨b, 3, none⟩ (.int .i64 h)).setCell ⟨b, 4, none⟩ (.int .i64 mi)).setCell ⟨b, 5, none⟩ (.int .i64 s)).setCell ⟨b, 6, none⟩ (.int .i64 z)
theorem put7_row (w : World) (b : Nat) (y mo d h mi s z : Int) (hg : w.heap[b]? = some (.cells z7 74 (0, 0))) : (put7 w b y mo d h mi s z).heap[b]? = some (.cells (St7 y mo d h mi s z) 74 (0, 0)) := by
  have h0 := heap_setCell_same w b 0 _ _ (.int .i64 y) hg
  have h1 := heap_setCell_same _ b 1 _ _ (.int .i64 mo) h0
  have h2 := heap_setCell_same _ b 2 _ _ (.int .i64 d) h1
  have h3 := heap_setCell_same _ b 3 _ _ (.int .i64 h) h2
  have h4 := heap_setCell_same _ b 4 _ _ (.int .i64 mi) h3
  have h5 := heap_setCell_same _ b 5 _ _ (.int .i64 s) h4
  have h6 := heap_setCell_same _ b 6 _ _ (.int .i64 z) h5
  exact h6
theorem StAt.of_row {w : World} {b : Nat} {y mo d h mi s z : Int} (hg : w.heap[b]? = some (.cells (St7 y mo d h mi s z) 74 (0, 0))) : StAt w b y mo d h mi s z := by
  have c : ∀ j, w.cell? ⟨b, j, none⟩ = (St7 y mo d h mi s z)[j]? := fun j => cell_of_row _ _ j _ 74 (0, 0) hg
  exact ⟨c 0, c 1, c 2, c 3, c 4, c 5, c 6⟩
theorem sum2 (a b : Int) (ha : 0 ≤ a ∧ a ≤ 9) (hb : 0 ≤ b ∧ b ≤ 9) : IntKind.i64.wrap (IntKind.i64.wrap (a * 10) + b) = a * 10 + b := by
  rw [IntWalk.i64_in (a * 10) (by omega), IntWalk.i64_in (a * 10 + b) (by omega)]
theorem put7_below {B : Nat} {w0 w : World} (b : Nat) (y mo d h mi s z : Int) (hb : Below B w0 w) (hB : B ≤ b) : Below B w0 (put7 w b y mo d h mi s z) :=
  ((((((hb.setCell (p := ⟨b, 0, none⟩) hB _).setCell (p := ⟨b, 1, none⟩) hB _).setCell (p := ⟨b, 2, none⟩) hB _).setCell (p := ⟨b, 3, none⟩) hB _).setCell (p := ⟨b, 4, none⟩) hB _).setCell (p := ⟨b, 5, none⟩) hB _).setCell (p := ⟨b, 6, none⟩) hB _
set_option maxRecDepth 100000 in
theorem parse_ret (tmps : Array Value) (w : World) (b : Nat) (y mo d h mi s z : Int) (v : Value) (hp : tmps.getD 2 undef = .pointer (some ⟨b, 0, none⟩)) (hv : tmps.getD 3 undef = v) (hg : w.heap[b]? = some (.cells (St7 y mo d h mi s z) 74 (0, 0))) :
    (results Tryd.f30 tmps).run Tryd.prog w = .ok (.tuple #[.agg (St7 y mo d h mi s z), v]) w := by
  rw [results_cell_tmp (fn := Tryd.f30) (p := 2) (u := 3) (ty := 74) rfl, hp]
  have hl := run_loadVar_row (P := Tryd.prog) w b 74 74 (St7 y mo d h mi s z) (0, 0) _ hg Tryd.underlying74 rfl (by kernel_rfl)
  simp only [asAddr]
  show Result.andThen ((loadVar 74 ⟨b, 0, none⟩).run Tryd.prog w) _ = _
  rw [hl]
  show Result.ok _ _ = _
  rw [hv]

set_option maxRecDepth 8000 in
set_option maxRecDepth 100000 in
set_option maxHeartbeats 4000000 in
theorem parse_yes (s : ByteArray) (w : World) (hs : s.size = 26) (y mo d0 d1 h mi sc zh zm z : Int)
    (k2 : ((s[2].toNat : Int) != 45) = false) (k6 : ((s[6].toNat : Int) != 45) = false) (k11 : ((s[11].toNat : Int) != 32) = false) (k14 : ((s[14].toNat : Int) != 58) = false) (k17 : ((s[17].toNat : Int) != 58) = false) (k20 : ((s[20].toNat : Int) != 32) = false)
    (hd : ∀ f ∈ fieldsS s, digS f = true) (h4 : ∀ f ∈ fieldsS s, f.size ≤ 4) (hv : (fieldsS s).map valS = [d0, d1, y, h, mi, sc, zh, zm])
    (hsg : ∀ w, Calls Tryd.prog 42 #[.int .u8 (s[21].toNat : Int), .int .i64 zh, .int .i64 zm] w fun e w' => e = .returned (.tuple #[.int .i64 z, .bool true]) ∧ w = w')
    (hmo : ∀ w, Calls Tryd.prog 43 #[.string (s.extract 3 6)] w fun e w' => e = .returned (.int .i64 mo) ∧ Below w.heap.size w w')
    (hd0 : 0 ≤ d0 ∧ d0 ≤ 9) (hd1 : 0 ≤ d1 ∧ d1 ≤ 9) (hr : RightS y mo (d0 * 10 + d1) h mi sc z) :
    Calls Tryd.prog 30 #[.string s] w fun e w' => e = .returned (.tuple #[.agg #[.int .i64 y, .int .i64 mo, .int .i64 (d0 * 10 + d1), .int .i64 h, .int .i64 mi, .int .i64 sc, .int .i64 z], .int .i64 0]) ∧ Below w.heap.size w w' := by
  have HD := Lib.hid hd
  have H4 := Lib.hid h4
  have HV := Lib.hid hv
  have HG := Lib.hid hsg
  have HM := Lib.hid hmo
  have HR := Lib.hid hr
  clear hd h4 hv hsg hmo hr
  go_enter Tryd.func30, Tryd.ntmps30
  go_upto_if 46 with (fail)
  go_cut [4] (fun f wx => f = .string (firstS s) ∧ wx = w.alloc (.cells z7 74))
  case first =>
    rcases Bool.eq_false_or_eq_true ((s.extract 0 1).toList == [32]) with ht | ht
    all_goals
      have HT := Lib.hid ht
      rw [ht]
      clear ht k2 k6 k11 k14 k17 k20
      go_wp2_with fail
      go_meet
      exact ⟨by unfold firstS; rw [HT.out]; rfl, rfl⟩
  case rest =>
    obtain ⟨hf, hw⟩ := hcut
    subst hf
    subst hw
    have hst : StrsAt ((w.alloc (.cells z7 74)).alloc (.cells ((fieldsS s).map Value.string).toArray 9)).drew (w.heap.size + 1) (fieldsS s) := by
      intro j hj
      rw [World.cell?_drew, cell_of_row _ _ j _ 9 (0, 0) (by simpa using heap_alloc_new (w.alloc (.cells z7 74)) _)]
      simp [hj]
    have HST := Lib.hid hst
    go_wp2_with fail
    go_cut [5, 6] (fun o b wx => b = .bool true ∧ OwnI wx (w.heap.size + 2) o ((fieldsS s).map valS) ∧ Below (w.heap.size + 1) (w.alloc (.cells z7 74)) wx)
    case first =>
      go_region_held3 (fun _ => True) (trivial)
        ((go_at_call 41; refine (numbers_yes (w.heap.size + 1) 8 (fieldsS s) _ rfl (by simp [fieldsS]) (by simp) HST.out H4.out HD.out).mono ?_; rintro e w2 ⟨o, rfl, ho, hb2⟩))
      all_goals
        go_wp2_with fail
        go_meet
        refine ⟨rfl, by simpa using ho, ?_⟩
        exact ((((Below.refl (w.heap.size + 1) (w.alloc (.cells z7 74))).alloc (by simp) _).drew).trans (hb2.mono (by simp)))
    case rest =>
      obtain ⟨hb, ho, hbel⟩ := hcut
      subst hb
      rw [HV.out] at ho
      obtain ⟨g, cap, hv, hg, hgs⟩ := ho.some (by simp)
      subst hv
      have c0 := ho.cell rfl 0 (by simp)
      have c1 := ho.cell rfl 1 (by simp)
      have c2 := ho.cell rfl 2 (by simp)
      have c3 := ho.cell rfl 3 (by simp)
      have c4 := ho.cell rfl 4 (by simp)
      have c5 := ho.cell rfl 5 (by simp)
      have c6 := ho.cell rfl 6 (by simp)
      have c7 := ho.cell rfl 7 (by simp)
      simp only [List.getElem_cons_succ, List.getElem_cons_zero] at c0 c1 c2 c3 c4 c5 c6 c7
      have hz : wc.heap[w.heap.size]? = some (.cells z7 74 (0, 0)) := by
        rw [hbel.block _ (by omega)]; exact heap_alloc_new w _
      have HZ := Lib.hid hz
      have HO := Lib.hid ho
      have HBE := Lib.hid hbel
      clear ho hbel hz k2 k6 k11 k14 k17 k20 hst
      simp only [List.length_cons, List.length_nil, Nat.zero_add, Nat.reduceAdd]
      go_wp2_with fail
      go_quiet ((go_at_call 42; exact Calls.quiet_of_same ((HG.out _).mono fun e w' h => ⟨h.1, h.2.symm⟩)))
      go_wp2_with fail
      have sz : (wc.drewN nq).heap.size = wc.heap.size := by simp
      have Z0 : (wc.drewN nq).heap[w.heap.size]? = some (.cells z7 74 (0, 0)) := by simpa using HZ.out
      have B0 : Below w.heap.size w (wc.drewN nq) := below_drewN (((Below.refl _ _).alloc (Nat.le_refl _) _).trans (HBE.out.mono (by simp))) _
      have C0 : (wc.drewN nq).cell? ⟨g, 0, none⟩ = some (.int .i64 d0) := by simpa using c0
      have C1 : (wc.drewN nq).cell? ⟨g, 1, none⟩ = some (.int .i64 d1) := by simpa using c1
      have C2 : (wc.drewN nq).cell? ⟨g, 2, none⟩ = some (.int .i64 y) := by simpa using c2
      have C3 : (wc.drewN nq).cell? ⟨g, 3, none⟩ = some (.int .i64 h) := by simpa using c3
      have C4 : (wc.drewN nq).cell? ⟨g, 4, none⟩ = some (.int .i64 mi) := by simpa using c4
      have C5 : (wc.drewN nq).cell? ⟨g, 5, none⟩ = some (.int .i64 sc) := by simpa using c5
      clear c0 c1 c2 c3 c4 c5 c6 c7
      have HZ0 := Lib.hid Z0
      have HB0 := Lib.hid B0
      clear Z0 B0 HZ HBE HO
      generalize wc.drewN nq = wx at *
      have hgx : g < wx.heap.size := by omega
      have bx : w.heap.size < wx.heap.size := by omega
      clear sz hgs
      go_cut [8] (fun p w' => ∃ q, p = .pointer (some ⟨q, 0, none⟩) ∧ wx.heap.size ≤ q ∧ StAt w' q y mo (d0 * 10 + d1) h mi sc z ∧ Below wx.heap.size wx w')
      case first =>
        have nex : wx.heap.size ≠ g := by omega
        have HW := Lib.hid (sum2 d0 d1 hd0 hd1)
        go_region_held3 (fun w' => w'.cell? ⟨g, 0, none⟩ = some (.int .i64 d0) ∧ w'.cell? ⟨g, 1, none⟩ = some (.int .i64 d1) ∧ w'.cell? ⟨g, 2, none⟩ = some (.int .i64 y) ∧ w'.cell? ⟨g, 3, none⟩ = some (.int .i64 h) ∧ w'.cell? ⟨g, 4, none⟩ = some (.int .i64 mi) ∧ w'.cell? ⟨g, 5, none⟩ = some (.int .i64 sc))
          (first | with_reducible exact kb | go_keep)
          (first
            | (go_at_call 43; refine (HM.out _).mono ?_; rintro e w2 ⟨rfl, hb2⟩; have hz2 : w2.heap[wx.heap.size]? = some (.cells z7 74 (0, 0)) := (hb2.block wx.heap.size (by simp)).trans (heap_alloc_new wx _); have y0 : w2.cell? ⟨wx.heap.size, 0, none⟩ = some (.int .i64 0) := cell_of_row _ _ 0 _ 74 (0, 0) hz2; have x0 : w2.frozen? ⟨wx.heap.size, 0, none⟩ = false := frozen_of_row _ _ 0 _ _ hz2; have y1 : w2.cell? ⟨wx.heap.size, 1, none⟩ = some (.int .i64 0) := cell_of_row _ _ 1 _ 74 (0, 0) hz2; have x1 : w2.frozen? ⟨wx.heap.size, 1, none⟩ = false := frozen_of_row _ _ 1 _ _ hz2; have y2 : w2.cell? ⟨wx.heap.size, 2, none⟩ = some (.int .i64 0) := cell_of_row _ _ 2 _ 74 (0, 0) hz2; have x2 : w2.frozen? ⟨wx.heap.size, 2, none⟩ = false := frozen_of_row _ _ 2 _ _ hz2; have y3 : w2.cell? ⟨wx.heap.size, 3, none⟩ = some (.int .i64 0) := cell_of_row _ _ 3 _ 74 (0, 0) hz2; have x3 : w2.frozen? ⟨wx.heap.size, 3, none⟩ = false := frozen_of_row _ _ 3 _ _ hz2; have y4 : w2.cell? ⟨wx.heap.size, 4, none⟩ = some (.int .i64 0) := cell_of_row _ _ 4 _ 74 (0, 0) hz2; have x4 : w2.frozen? ⟨wx.heap.size, 4, none⟩ = false := frozen_of_row _ _ 4 _ _ hz2; have y5 : w2.cell? ⟨wx.heap.size, 5, none⟩ = some (.int .i64 0) := cell_of_row _ _ 5 _ 74 (0, 0) hz2; have x5 : w2.frozen? ⟨wx.heap.size, 5, none⟩ = false := frozen_of_row _ _ 5 _ _ hz2; have y6 : w2.cell? ⟨wx.heap.size, 6, none⟩ = some (.int .i64 0) := cell_of_row _ _ 6 _ 74 (0, 0) hz2; have x6 : w2.frozen? ⟨wx.heap.size, 6, none⟩ = false := frozen_of_row _ _ 6 _ _ hz2; have kc : ∀ j, w2.cell? ⟨g, j, none⟩ = wx.cell? ⟨g, j, none⟩ := (fun j => (hb2.cell (p := ⟨g, j, none⟩) (by simp; omega)).trans (by first | rfl | exact World.cell?_alloc_old _ _ _ (by simp; omega))); have kb : w2.cell? ⟨g, 0, none⟩ = some (.int .i64 d0) ∧ w2.cell? ⟨g, 1, none⟩ = some (.int .i64 d1) ∧ w2.cell? ⟨g, 2, none⟩ = some (.int .i64 y) ∧ w2.cell? ⟨g, 3, none⟩ = some (.int .i64 h) ∧ w2.cell? ⟨g, 4, none⟩ = some (.int .i64 mi) ∧ w2.cell? ⟨g, 5, none⟩ = some (.int .i64 sc) := ⟨(kc 0).trans C0, (kc 1).trans C1, (kc 2).trans C2, (kc 3).trans C3, (kc 4).trans C4, (kc 5).trans C5⟩; have hx2 := hb2.size; have ne2 : w2.heap.size ≠ g := (by simp at hx2; omega); have HB2 := Lib.hid (And.intro hb2 hz2); clear hb2 hz2 kc)
            | (go_at_call 43; refine (HM.out _).mono ?_; rintro e w2 ⟨rfl, hb2⟩; have kc : ∀ j, w2.cell? ⟨g, j, none⟩ = wx.cell? ⟨g, j, none⟩ := (fun j => (hb2.cell (p := ⟨g, j, none⟩) (by simp; omega)).trans (by first | rfl | exact World.cell?_alloc_old _ _ _ (by simp; omega))); have kb : w2.cell? ⟨g, 0, none⟩ = some (.int .i64 d0) ∧ w2.cell? ⟨g, 1, none⟩ = some (.int .i64 d1) ∧ w2.cell? ⟨g, 2, none⟩ = some (.int .i64 y) ∧ w2.cell? ⟨g, 3, none⟩ = some (.int .i64 h) ∧ w2.cell? ⟨g, 4, none⟩ = some (.int .i64 mi) ∧ w2.cell? ⟨g, 5, none⟩ = some (.int .i64 sc) := ⟨(kc 0).trans C0, (kc 1).trans C1, (kc 2).trans C2, (kc 3).trans C3, (kc 4).trans C4, (kc 5).trans C5⟩; have hx2 := hb2.size; have ne2 : w2.heap.size ≠ g := (by simp at hx2; omega); have HB2 : Hid (Below wx.drew.heap.size wx.drew w2) := Lib.hid hb2; clear hb2 kc))
        · go_wp2_with fail
          go_meet
          refine ⟨w2.heap.size, rfl, ?_, ?_, ?_⟩
          · have := HB2.out.size; simpa using this
          · rw [HW.out]; exact StAt.new w2 y mo (d0 * 10 + d1) h mi sc z
          · exact (((Below.refl _ _).drew).trans HB2.out).alloc (by have := HB2.out.size; simpa using this) _
        · go_wp2_with fail
          go_meet
          refine ⟨wx.heap.size, rfl, Nat.le_refl _, ?_, ?_⟩
          · rw [HW.out]; exact StAt.of_row (put7_row w2 wx.heap.size y mo (d0 * 10 + d1) h mi sc z HB2.out.2)
          · exact put7_below _ _ _ _ _ _ _ _ ((((Below.refl _ _).alloc (Nat.le_refl _) _).drew).trans (HB2.out.1.mono (by simp))) (Nat.le_refl _)
      case rest =>
        obtain ⟨q, hp, hq, hst, hbx⟩ := hcut
        subst hp
        have HST := Lib.hid hst
        obtain ⟨e0, e1, e2, e3, e4, e5, e6⟩ := id hst
        have hzx : wc.heap[w.heap.size]? = some (.cells z7 74 (0, 0)) := by
          rw [hbx.block _ bx]; exact HZ0.out
        go_wp2_with fail
        refine (right_yes y mo (d0 * 10 + d1) h mi sc z _ HR.out).mono ?_
        rintro e w3 ⟨rfl, hb3⟩
        have hsx := hbx.size
        have hqs : q < wc.heap.size := by
          have := World.block_lt_of_cell? wc _ e0
          exact this
        have st3 := HST.out.below hb3 hqs
        obtain ⟨f0, f1, f2, f3, f4, f5, f6⟩ := id st3
        have hz3 : w3.heap[w.heap.size]? = some (.cells z7 74 (0, 0)) := by
          rw [hb3.block _ (by omega)]; exact hzx
        have zc : ∀ j, w3.cell? ⟨w.heap.size, j, none⟩ = z7[j]? := fun j => cell_of_row _ _ j _ 74 (0, 0) hz3
        have g0 : w3.cell? ⟨w.heap.size, 0, none⟩ = some (.int .i64 0) := zc 0
        have g1 : w3.cell? ⟨w.heap.size, 1, none⟩ = some (.int .i64 0) := zc 1
        have g2 : w3.cell? ⟨w.heap.size, 2, none⟩ = some (.int .i64 0) := zc 2
        have g3 : w3.cell? ⟨w.heap.size, 3, none⟩ = some (.int .i64 0) := zc 3
        have g4 : w3.cell? ⟨w.heap.size, 4, none⟩ = some (.int .i64 0) := zc 4
        have g5 : w3.cell? ⟨w.heap.size, 5, none⟩ = some (.int .i64 0) := zc 5
        have g6 : w3.cell? ⟨w.heap.size, 6, none⟩ = some (.int .i64 0) := zc 6
        have k0 : w3.frozen? ⟨w.heap.size, 0, none⟩ = false := frozen_of_row _ _ _ _ _ hz3
        have k1 : w3.frozen? ⟨w.heap.size, 1, none⟩ = false := frozen_of_row _ _ _ _ _ hz3
        have k2 : w3.frozen? ⟨w.heap.size, 2, none⟩ = false := frozen_of_row _ _ _ _ _ hz3
        have k3 : w3.frozen? ⟨w.heap.size, 3, none⟩ = false := frozen_of_row _ _ _ _ _ hz3
        have k4 : w3.frozen? ⟨w.heap.size, 4, none⟩ = false := frozen_of_row _ _ _ _ _ hz3
        have k5 : w3.frozen? ⟨w.heap.size, 5, none⟩ = false := frozen_of_row _ _ _ _ _ hz3
        have k6 : w3.frozen? ⟨w.heap.size, 6, none⟩ = false := frozen_of_row _ _ _ _ _ hz3
        have HZ3 := Lib.hid hz3
        have HB3 := Lib.hid hb3
        have HBX := Lib.hid hbx
        clear hz3 hb3 hbx hst st3 zc hzx
        go_wp2_with fail
        have hfin := put7_row w3 w.heap.size y mo (d0 * 10 + d1) h mi sc z HZ3.out
        refine bodyPost_ret (v := .tuple #[.agg (St7 y mo (d0 * 10 + d1) h mi sc z), .int .i64 0]) (parse_ret _ _ _ _ _ _ _ _ _ _ _ rfl rfl hfin) rfl ⟨rfl, ?_⟩
        exact put7_below _ _ _ _ _ _ _ _ ((HB0.out.trans (HBX.out.mono (by omega))).trans (HB3.out.mono (by omega))) (Nat.le_refl _)
end S8
end Go.Proofs.YtacalpgiopgkkaaDoor
