/-
  HouseNil: its walk.
-/
import Derived.Test.YtacalpgiopgkkaaGreatDoorNilN
import Derived.Test.YtacalpgiopgkkaaGreatDoorAwkW
namespace Go.Proofs.YtacalpgiopgkkaaGreatDoor
set_option linter.unusedVariables false
open Go.RowKit Go.MapKept
attribute [local go_sem] Oper.semAt_some

/-- what stays: the op's block, the mailbox', and all below -/
def NilK (w0 w : World) (ob zb : Nat) (l : List Value) : Prop := At w ob l 33 ∧ At w zb boxZ 45 ∧ Below w0.heap.size w0 w
theorem NilK.below {w0 w w' : World} {ob zb : Nat} {l : List Value} (h : NilK w0 w ob zb l) (hb : Below w.heap.size w w') : NilK w0 w' ob zb l := ⟨h.1.below hb, h.2.1.below hb, h.2.2.trans (hb.mono h.2.2.size)⟩
theorem box_nil' (n : ByteArray) (w : World) : Calls Tryz.prog 16 #[.pointer none, .string n] w fun e w' => e = .returned (.tuple #[.agg #[.string ⟨#[]⟩, .int .u32 0, .int .u32 0, .slice none 0 0], .bool false]) ∧ Below w.heap.size w w' := box_nil n w
set_option maxRecDepth 100000 in
set_option maxHeartbeats 8000000 in
theorem nil_walk (k : Int) (bx tx : ByteArray) (fa : Option Addr) (fn fc : Nat) (dt : ByteArray) (ba : Option Addr) (bn bc : Nat) (uid : Int) (ua : Option Addr) (uc : Nat) (xs : List Int) (d : Int) (w : World) (ht : Pow w) (hx : S9.RowV w 1 (.slice ua xs.length uc) xs.length (S9.u32s xs)) (hs : xs.length ≤ 35184372087808) :
    Calls Tryz.prog 4 #[.agg #[.int .i64 k, .string bx, .string tx, .slice fa fn fc, .string dt, .slice ba bn bc, .int .u32 uid, .slice ua xs.length uc, .int .i64 d]] w fun e w' => e = .returned (.bool true) ∧ Below w.heap.size w w' := by
  have ho := At.new w [.int .i64 k, .string bx, .string tx, .slice fa fn fc, .string dt, .slice ba bn bc, .int .u32 uid, .slice ua xs.length uc, .int .i64 d] 33
  have hb0 := (Below.refl w.heap.size w).alloc (Nat.le_refl _) (.cells #[.int .i64 k, .string bx, .string tx, .slice fa fn fc, .string dt, .slice ba bn bc, .int .u32 uid, .slice ua xs.length uc, .int .i64 d] 33)
  have hx1 := S9.RowV.below hx hb0
  have ht1 : Pow (w.alloc (.cells #[.int .i64 k, .string bx, .string tx, .slice fa fn fc, .string dt, .slice ba bn bc, .int .u32 uid, .slice ua xs.length uc, .int .i64 d] 33)) := ht.below hb0 (Nat.le_refl _)
  obtain ⟨ob, hob⟩ : ∃ b, w.heap.size = b := ⟨_, rfl⟩
  have HW := Lib.hid hob
  rw [hob] at ho
  change At (w.alloc (.cells #[.int .i64 k, .string bx, .string tx, .slice fa fn fc, .string dt, .slice ba bn bc, .int .u32 uid, .slice ua xs.length uc, .int .i64 d] 33)) ob _ _ at ho
  go_enter Tryz.func4, Tryz.ntmps4
  go_upto_region 1 with fail
  generalize w.alloc (.cells #[.int .i64 k, .string bx, .string tx, .slice fa fn fc, .string dt, .slice ba bn bc, .int .u32 uid, .slice ua xs.length uc, .int .i64 d] 33) = w0 at *
  have HO := Lib.hid (And.intro ho (And.intro hx1 (And.intro ht1 hb0)))
  have o1 := ho.cell 1 _ rfl
  have o2 := ho.cell 2 _ rfl
  have o3 := ho.cell 3 _ rfl
  have o4 := ho.cell 4 _ rfl
  have o5 := ho.cell 5 _ rfl
  clear ht hx ho hb0 hx1 ht1 hob
  go_upto_region 3 with (go_at_call 15; refine (append_nil _ _ _ _ _ _ _ _ _).mono ?_; rintro e w1 ⟨rfl, hb1⟩; have HB1 := Lib.hid hb1; have h1 := HO.out.1.below hb1; have o1 := h1.cell 1 _ rfl; have o7 := h1.cell 7 _ rfl; have HO1 := Lib.hid (And.intro h1 (S9.RowV.below HO.out.2.1 hb1)); clear hb1 h1)
  go_upto_region 4 with (go_at_call 14; refine (expunge_nil _ _ xs _ HO1.out.2 hs).mono ?_; rintro e w2 ⟨rfl, hb2⟩; have HB2 := Lib.hid (HB1.out.trans (hb2.mono HB1.out.size)); have h1 := HO1.out.1.below hb2; have o1 := h1.cell 1 _ rfl; have HO2 := Lib.hid h1; clear hb2 h1)
  go_upto_region 5 with (go_at_call 16; refine (box_nil' _ _).mono ?_; rintro e w3 ⟨rfl, hb3⟩; have HB3 := Lib.hid (HB2.out.trans (hb3.mono HB2.out.size)); have HO3 := Lib.hid (HO2.out.below hb3); clear hb3)
  have hz := At.new w3 boxZ 45
  have hzb := (Below.refl w3.heap.size w3).alloc (Nat.le_refl _) (.cells boxZ.toArray 45)
  have ho4 := HO3.out.below hzb
  have hb4 := HB3.out.trans (hzb.mono HB3.out.size)
  obtain ⟨zb, hzz⟩ : ∃ b, w3.heap.size = b := ⟨_, rfl⟩
  rw [hzz] at hz ⊢
  have hK : NilK w0 (w3.alloc (.cells boxZ.toArray 45)) ob zb [.int .i64 k, .string bx, .string tx, .slice fa fn fc, .string dt, .slice ba bn bc, .int .u32 uid, .slice ua xs.length uc, .int .i64 d] := ⟨ho4, hz, hb4⟩
  change NilK w0 (w3.alloc (.cells #[.string ⟨#[]⟩, .int .u32 0, .int .u32 0, .slice none 0 0] 45)) ob zb [.int .i64 k, .string bx, .string tx, .slice fa fn fc, .string dt, .slice ba bn bc, .int .u32 uid, .slice ua xs.length uc, .int .i64 d] at hK
  generalize w3.alloc (.cells #[.string ⟨#[]⟩, .int .u32 0, .int .u32 0, .slice none 0 0] 45) = w4 at *
  have HK4 := Lib.hid hK
  have HP := Lib.hid (HO.out.2.2.1.below hK.2.2 (Nat.le_refl _) : Pow w4)
  have o1 := hK.1.cell 1 _ rfl
  clear hz hzb ho4 hb4 hK hzz HO3 HB3 HO2 HB2 HO1 HB1
  go_wp2_with (first
    | (go_at_call 7; refine (awake_any _ HP.out).mono ?_; rintro e w5 ⟨rfl, hb⟩; have HK5 := Lib.hid (HK4.out.below hb); have o1 := HK5.out.1.cell 1 _ rfl; clear hb)
    | (go_at_call 9; refine (create_nil _ _).mono ?_; rintro e w6 ⟨rfl, hb⟩; have HK6 := Lib.hid (HK5.out.below hb); have o1 := HK6.out.1.cell 1 _ rfl; clear hb)
    | (go_at_call 10; refine (delete_nil _ _).mono ?_; rintro e w7 ⟨rfl, hb⟩; have HK7 := Lib.hid (HK6.out.below hb); have o1 := HK7.out.1.cell 1 _ rfl; have o2 := HK7.out.1.cell 2 _ rfl; clear hb)
    | (go_at_call 11; refine (rename_nil _ _ _).mono ?_; rintro e w8 ⟨rfl, hb⟩; have HK8 := Lib.hid (HK7.out.below hb); have o1 := HK8.out.1.cell 1 _ rfl; have o6 := HK8.out.1.cell 6 _ rfl; have o8 := HK8.out.1.cell 8 _ rfl; have o3 := HK8.out.1.cell 3 _ rfl; clear hb)
    | (go_at_call 13; refine (store_nil _ _ _ _ _ _ _).mono ?_; rintro e w9 ⟨rfl, hb⟩; have HK9 := Lib.hid (HK8.out.below hb); have o1 := HK9.out.1.cell 1 _ rfl; clear hb)
    | (go_at_call 12; refine (reset_nil _ _).mono ?_; rintro e w10 ⟨rfl, hb⟩; have HK10 := Lib.hid (HK9.out.below hb); have z0 := HK10.out.2.1.cell 0 _ rfl; have z1 := HK10.out.2.1.cell 1 _ rfl; have z2 := HK10.out.2.1.cell 2 _ rfl; have z3 := HK10.out.2.1.cell 3 _ rfl; clear hb)
    | (go_at_call 18; refine (boxes_nil _).mono ?_; rintro e w11 ⟨rfl, hb⟩; have HK11 := Lib.hid (HK10.out.below hb); clear hb)
    | (go_at_call 17; refine (names_nil _).mono ?_; rintro e w12 ⟨rfl, hb⟩; have HK12 := Lib.hid (HK11.out.below hb); clear hb)
    | (go_at_call 19; refine (fork_nil _).mono ?_; rintro e w13 ⟨rfl, hb⟩; have HK13 := Lib.hid (HK12.out.below hb); clear hb))
  go_ret
  exact ⟨rfl, HO.out.2.2.2.trans (HK13.out.2.2.mono HO.out.2.2.2.size)⟩
end Go.Proofs.YtacalpgiopgkkaaGreatDoor
