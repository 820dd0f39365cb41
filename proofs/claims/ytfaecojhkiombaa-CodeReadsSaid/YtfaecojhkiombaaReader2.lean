/-
  A reader with its bytes at a known place: the contracts of Num and Text keep that place.
-/
import Derived.Test.YtfaecojhkiombaaSpoil
import Derived.Deep.Grids
import Derived.BigQuiet
import Derived.Deep.QuietTactic
namespace Go.Proofs.Ytfaecojhkiombaa
set_option linter.unusedVariables false
open Go.RowKit

/-- a reader of the bytes l at block g, which lie where ao and cap say -/
def RdV (w : World) (B g : Nat) (ao : Option Addr) (cap : Nat) (l : List Nat) (at_ err : Nat) : Prop :=
  RD w g (.slice ao l.length cap) at_ err ∧ OwnB w B (.slice ao l.length cap) l ∧ at_ ≤ l.length ∧ B ≤ g
theorem RdV.reader {w : World} {B g : Nat} {ao : Option Addr} {cap : Nat} {l : List Nat} {at_ err : Nat} (h : RdV w B g ao cap l at_ err) : Reader w B g l at_ err := ⟨ao, cap, h⟩
theorem RdV.beside {w w' : World} {B g : Nat} {ao : Option Addr} {cap : Nat} {l : List Nat} {a e : Nat} {own : Nat → Prop} (h : RdV w B g ao cap l a e) (hb : Beside own w w') (hg : ¬ own g) (hn : ∀ x, ao = some x → ¬ own x.block) : RdV w' B g ao cap l a e := by
  obtain ⟨rd, ho, ha, hBg⟩ := h
  exact ⟨rd.beside hb hg, ho.beside hb (fun k hk => by
    cases ao with
    | none => simp [Value.ownBlock] at hk
    | some x => simp [Value.ownBlock] at hk; exact hk ▸ hn x rfl), ha, hBg⟩

set_option maxHeartbeats 800000 in
theorem rnum_v {w : World} {B g : Nat} {l : List Nat} {ao : Option Addr} {cap at_ err : Nat} (h : RdV w B g ao cap l at_ err) (hlt : ∀ n ∈ l, n < 256) (hl : l.length ≤ 140737488351232) :
    Calls Try.prog 20 #[.pointer (some ⟨g, 0, none⟩)] w fun e w' => e = .returned (.int .u64 ((numStep l at_ err).1 : Nat)) ∧ RdV w' B g ao cap l (numStep l at_ err).2.1 (numStep l at_ err).2.2 ∧ Beside (· = g) w w' := by
  obtain ⟨rd, ho, ha, hg⟩ := h
  have hgs := lt_of_block rd
  have hos := World.ownsRow.lt ho
  by_cases he : err = 0
  · subst he
    have HR := Lib.hid rd
    have HO := Lib.hid ho
    have HOs := Lib.hid hos
    clear rd ho hos
    have b0 : Beside (fun _ => False) w ((w.alloc (.cells #[.int .u64 0, .int .i64 0, .slice none 0 0] 51)).alloc (.cells #[.func (.func 31) #[.pointer (some ⟨w.heap.size, 0, none⟩)] #[], .func (.func 32) #[.pointer (some ⟨w.heap.size, 0, none⟩)] #[], .func (.func 33) #[.pointer (some ⟨w.heap.size, 0, none⟩)] #[]] 56)) := ((Beside.refl _ w).alloc _).alloc _
    have R0 := Lib.hid (HR.out.beside b0 (fun h => h))
    have O0 := Lib.hid (HO.out.beside b0 (fun _ _ h => h))
    have S0 : Hid (Scan ((w.alloc (.cells #[.int .u64 0, .int .i64 0, .slice none 0 0] 51)).alloc (.cells #[.func (.func 31) #[.pointer (some ⟨w.heap.size, 0, none⟩)] #[], .func (.func 32) #[.pointer (some ⟨w.heap.size, 0, none⟩)] #[], .func (.func 33) #[.pointer (some ⟨w.heap.size, 0, none⟩)] #[]] 56)) w.heap.size 0 0 (.slice none 0 0)) := by
      unfold Hid Scan
      rw [Below.heap_alloc _ _ _ (by simp), heap_alloc_new]
      rfl
    have N0 : Hid (NumSteps ((w.alloc (.cells #[.int .u64 0, .int .i64 0, .slice none 0 0] 51)).alloc (.cells #[.func (.func 31) #[.pointer (some ⟨w.heap.size, 0, none⟩)] #[], .func (.func 32) #[.pointer (some ⟨w.heap.size, 0, none⟩)] #[], .func (.func 33) #[.pointer (some ⟨w.heap.size, 0, none⟩)] #[]] 56)) (w.heap.size + 1) w.heap.size) := by
      unfold Hid NumSteps
      have := heap_alloc_new (w.alloc (.cells #[.int .u64 0, .int .i64 0, .slice none 0 0] 51)) (.cells #[.func (.func 31) #[.pointer (some ⟨w.heap.size, 0, none⟩)] #[], .func (.func 32) #[.pointer (some ⟨w.heap.size, 0, none⟩)] #[], .func (.func 33) #[.pointer (some ⟨w.heap.size, 0, none⟩)] #[]] 56)
      simpa using this
    have B0 := Lib.hid b0
    clear b0
    go_enter Try.func20, Try.ntmps20
    go_wp2_with fail
    go_fit (run_num R0.out O0.out hlt N0.out S0.out (by omega) (by omega) (by omega) ha (by omega))
    rintro e w1 ⟨hb, hend⟩
    rcases hend with ⟨hE, rfl, rd1, l1, sc1⟩ | ⟨hE, rfl, rd1⟩
    · have c0 := sc1.cell0
      have HE := Lib.hid hE
      have R1 := Lib.hid rd1
      have HB := Lib.hid hb
      clear hE rd1 hb sc1
      go_wp2_with fail
      go_ret
      have hst : numStep l at_ 0 = (numV (l.drop at_), at_ + numN (l.drop at_), 0) := by
        unfold numStep
        rw [if_neg (by simp), if_pos HE.out]
      rw [hst]
      have hn := numN_le HE.out
      rw [List.length_drop] at hn
      have hbw : Beside (· = g) w w1 := (B0.out.mono (own' := fun x => x = w.heap.size ∨ x = g) (fun x _ h => h.elim)).trans HB.out |>.mono (fun x hx h => by rcases h with h | h; omega; exact h)
      refine ⟨rfl, ⟨R1.out, HO.out.beside hbw (fun x hx e => HO.out.ne HR.out (by decide) (by rw [hx, e])), by show at_ + numN (l.drop at_) ≤ l.length; omega, hg⟩, hbw⟩
    · have HE := Lib.hid hE
      have R1 := Lib.hid rd1
      have HB := Lib.hid hb
      clear hE rd1 hb
      go_wp2_with fail
      go_ret
      have hst : numStep l at_ 0 = (0, at_, numE (l.drop at_)) := by
        unfold numStep
        rw [if_neg (by simp), if_neg HE.out]
      rw [hst]
      have hbw : Beside (· = g) w w1 := (B0.out.mono (own' := fun x => x = w.heap.size ∨ x = g) (fun x _ h => h.elim)).trans HB.out |>.mono (fun x hx h => by rcases h with h | h; omega; exact h)
      refine ⟨rfl, ⟨R1.out, HO.out.beside hbw (fun x hx e => HO.out.ne HR.out (by decide) (by rw [hx, e])), by omega, hg⟩, hbw⟩
  · have HR := Lib.hid rd
    have HO := Lib.hid ho
    have HOs := Lib.hid hos
    clear rd ho hos
    have h1 : ((err : Int) == 0) = false := by simp; omega
    go_enter Try.func20, Try.ntmps20
    go_wp2_with fail
    go_fit (run_err (HR.out.beside (own := fun _ => False) (((Beside.refl _ w).alloc _).alloc _) (fun h => h)) he)
    rintro e w1 ⟨rfl, rfl⟩
    go_wp2_with fail
    go_ret
    have hst : numStep l at_ err = (0, at_, err) := by
      unfold numStep
      rw [if_pos he]
    rw [hst]
    have hbw := ((Beside.refl (· = g) w).alloc (.cells #[.int .u64 0, .int .i64 0, .slice none 0 0] 51)).alloc (.cells #[.func (.func 31) #[.pointer (some ⟨w.heap.size, 0, none⟩)] #[], .func (.func 32) #[.pointer (some ⟨w.heap.size, 0, none⟩)] #[], .func (.func 33) #[.pointer (some ⟨w.heap.size, 0, none⟩)] #[]] 56)
    exact ⟨rfl, ⟨HR.out.beside (own := fun _ => False) (((Beside.refl _ w).alloc _).alloc _) (fun h => h), HO.out.beside (own := fun _ => False) (((Beside.refl _ w).alloc _).alloc _) (fun _ _ h => h), ha, hg⟩, hbw⟩

set_option maxHeartbeats 800000 in
theorem rtxt_v {w : World} {B g : Nat} {l : List Nat} {ao : Option Addr} {cap at_ err : Nat} (h : RdV w B g ao cap l at_ err) (hlt : ∀ n ∈ l, n < 256) (hl : l.length ≤ 140737488351232) :
    Calls Try.prog 18 #[.pointer (some ⟨g, 0, none⟩)] w fun e w' => ∃ o, e = .returned o ∧ OwnB w' w.heap.size o (txtStep l at_ err).1 ∧ RdV w' B g ao cap l (txtStep l at_ err).2.1 (txtStep l at_ err).2.2 ∧ Beside (· = g) w w' := by
  obtain ⟨rd, ho, ha, hg⟩ := h
  have hgs := lt_of_block rd
  have hos := World.ownsRow.lt ho
  by_cases he : err = 0
  · subst he
    have HR := Lib.hid rd
    have HO := Lib.hid ho
    have HOs := Lib.hid hos
    clear rd ho hos
    have b0 : Beside (fun _ => False) w ((w.alloc (.cells #[.int .u64 0, .int .i64 0, .slice none 0 0] 51)).alloc (.cells #[.func (.func 28) #[.pointer (some ⟨w.heap.size, 0, none⟩)] #[], .func (.func 29) #[.pointer (some ⟨w.heap.size, 0, none⟩)] #[]] 53)) := ((Beside.refl _ w).alloc _).alloc _
    have R0 := Lib.hid (HR.out.beside b0 (fun h => h))
    have O0 := Lib.hid (HO.out.beside b0 (fun _ _ h => h))
    have S0 : Hid (Scan ((w.alloc (.cells #[.int .u64 0, .int .i64 0, .slice none 0 0] 51)).alloc (.cells #[.func (.func 28) #[.pointer (some ⟨w.heap.size, 0, none⟩)] #[], .func (.func 29) #[.pointer (some ⟨w.heap.size, 0, none⟩)] #[]] 53)) w.heap.size 0 0 (.slice none 0 0)) := by
      unfold Hid Scan
      rw [Below.heap_alloc _ _ _ (by simp), heap_alloc_new]
      rfl
    have N0 : Hid (TextSteps ((w.alloc (.cells #[.int .u64 0, .int .i64 0, .slice none 0 0] 51)).alloc (.cells #[.func (.func 28) #[.pointer (some ⟨w.heap.size, 0, none⟩)] #[], .func (.func 29) #[.pointer (some ⟨w.heap.size, 0, none⟩)] #[]] 53)) (w.heap.size + 1) w.heap.size) := by
      unfold Hid TextSteps
      have := heap_alloc_new (w.alloc (.cells #[.int .u64 0, .int .i64 0, .slice none 0 0] 51)) (.cells #[.func (.func 28) #[.pointer (some ⟨w.heap.size, 0, none⟩)] #[], .func (.func 29) #[.pointer (some ⟨w.heap.size, 0, none⟩)] #[]] 53)
      simpa using this
    have B0 := Lib.hid b0
    clear b0
    go_enter Try.func18, Try.ntmps18
    go_wp2_with fail
    go_fit (run_text (S := w.heap.size + 2) R0.out O0.out hlt N0.out S0.out (by omega) (by omega) (by omega) ha (by omega) (by simp))
    rintro e w1 ⟨hb, hS, hend⟩
    have hbw : Beside (· = g) w w1 := (B0.out.mono (own' := fun x => x = w.heap.size ∨ x = g ∨ w.heap.size + 2 ≤ x) (fun x _ h => h.elim)).trans hb |>.mono (fun x hx h => by rcases h with h | h | h; omega; exact h; omega)
    have HBW := Lib.hid hbw
    clear hbw hb
    rcases hend with ⟨acc, n, T, hE, rfl, rd1, sc1, ow1⟩ | ⟨E, hE0, hE, rfl, rd1⟩
    · obtain ⟨aT, cT, eT⟩ := ow1.shape
      subst eT
      have c2 := sc1.cell2
      have HE := Lib.hid hE
      have R1 := Lib.hid rd1
      have OW := Lib.hid ow1
      clear hE rd1 sc1 ow1
      go_wp2_with fail
      go_ret
      have hst : txtStep l at_ 0 = (acc, at_ + n, 0) := by
        unfold txtStep
        rw [if_neg (by simp), HE.out]
      rw [hst]
      have hn := txtP_le HE.out
      rw [List.length_drop] at hn
      refine ⟨_, rfl, OW.out.base (by omega), ⟨R1.out, HO.out.beside HBW.out (fun x hx e => HO.out.ne HR.out (by decide) (by rw [hx, e])), by show at_ + n ≤ l.length; omega, hg⟩, HBW.out⟩
    · have HE := Lib.hid hE
      have R1 := Lib.hid rd1
      clear hE rd1
      go_wp2_with fail
      go_ret
      have hst : txtStep l at_ 0 = ([], at_, E) := by
        unfold txtStep
        rw [if_neg (by simp), HE.out]
        rfl
      rw [hst]
      refine ⟨_, rfl, World.ownsRow_nil _ _ _ _, ⟨R1.out, HO.out.beside HBW.out (fun x hx e => HO.out.ne HR.out (by decide) (by rw [hx, e])), ha, hg⟩, HBW.out⟩
  · have HR := Lib.hid rd
    have HO := Lib.hid ho
    have HOs := Lib.hid hos
    clear rd ho hos
    have h1 : ((err : Int) == 0) = false := by simp; omega
    go_enter Try.func18, Try.ntmps18
    go_wp2_with fail
    go_fit (run_err (HR.out.beside (own := fun _ => False) (((Beside.refl _ w).alloc _).alloc _) (fun h => h)) he)
    rintro e w1 ⟨rfl, rfl⟩
    go_wp2_with fail
    go_ret
    have hst : txtStep l at_ err = ([], at_, err) := by
      unfold txtStep
      rw [if_pos he]
    rw [hst]
    have hbw := ((Beside.refl (· = g) w).alloc (.cells #[.int .u64 0, .int .i64 0, .slice none 0 0] 51)).alloc (.cells #[.func (.func 28) #[.pointer (some ⟨w.heap.size, 0, none⟩)] #[], .func (.func 29) #[.pointer (some ⟨w.heap.size, 0, none⟩)] #[]] 53)
    exact ⟨_, rfl, World.ownsRow_nil _ _ _ _, ⟨HR.out.beside (own := fun _ => False) (((Beside.refl _ w).alloc _).alloc _) (fun h => h), HO.out.beside (own := fun _ => False) (((Beside.refl _ w).alloc _).alloc _) (fun _ _ h => h), ha, hg⟩, hbw⟩


theorem txtP_lt {s : List Nat} {b : Bool} {acc : List Nat} {n : Nat} (hs : ∀ x ∈ s, x < 256) (ha : ∀ x ∈ acc, x < 256) : ∀ x ∈ (txtP s b acc n).2.1, x < 256 := by
  induction s generalizing b acc n with
  | nil => simp [txtP]
  | cons c t ih =>
    have ht : ∀ x ∈ t, x < 256 := fun x hx => hs x (by simp [hx])
    have hc := hs c (by simp)
    cases b with
    | false =>
      simp only [txtP]
      split
      · exact ih ht ha
      · exact ih ht (by intro x hx; rcases List.mem_append.1 hx with h | h; exact ha x h; simp at h; omega)
    | true =>
      simp only [txtP]
      split
      · exact ih ht (by intro x hx; rcases List.mem_append.1 hx with h | h; exact ha x h; simp at h; omega)
      · split
        · exact ha
        · simp

theorem txtStep_lt {l : List Nat} (hl : ∀ x ∈ l, x < 256) (at_ err : Nat) : ∀ x ∈ (txtStep l at_ err).1, x < 256 := by
  unfold txtStep
  split
  · simp
  · exact txtP_lt (fun x hx => hl x (List.mem_of_mem_drop hx)) (by simp)

/-- a slice of bools -/
def RowBo (w : World) (v : Value) (l : List Bool) : Prop :=
  ∃ a cap, v = .slice a l.length cap ∧ l.length ≤ cap ∧ cap ≤ maxLen ∧ (a = none → l.length = 0) ∧ ∀ x, a = some x → ∀ i, (h : i < l.length) → w.cell? (x.add i) = some (.bool l[i])
theorem RowBo.below {w w1 : World} {v : Value} {l : List Bool} (h : RowBo w v l) (hb : Below w.heap.size w w1) : RowBo w1 v l := by
  obtain ⟨a, cap, e, h1, h2, h3, h4⟩ := h
  refine ⟨a, cap, e, h1, h2, h3, fun x hx i hi => ?_⟩
  have h5 := h4 x hx i hi
  rw [hb.cell (World.block_lt_of_cell? w _ h5)]
  exact h5

theorem open_row_bools {H : Type} {enc : TypeId × Value → H} {w : World} {a : Option Addr} {len cap : Nat} {d : DataW H} {p : List MemPlace}
    (h : DataW.Trod enc Try.prog w 0 (fun _ => true) true 31 (.slice a len cap) d p) : ∃ l : List Bool, RowBo w (.slice a len cap) l := by
  obtain ⟨fuel, hf⟩ := h
  rcases Go.Deep.open_bools Try.underlying31 Try.underlying4 (by kernel_rfl) hf with ⟨hcs, _⟩ | ⟨x, l, c, B, hcs, _, hl, hm, hx, hcell⟩
  · simp [Value.cells] at hcs
    obtain ⟨rfl, rfl, rfl⟩ := hcs
    exact ⟨[], none, 0, rfl, by simp, by decide, by simp, by simp⟩
  · simp [Value.cells] at hcs
    obtain ⟨rfl, rfl, rfl⟩ := hcs
    refine ⟨(List.range len).map B, some x, cap, by simp, by simpa using hl, hm, by simp, fun y hy i hi => ?_⟩
    obtain rfl := Option.some.inj hy
    simp at hi ⊢
    exact hcell i (by omega)
end Go.Proofs.Ytfaecojhkiombaa
