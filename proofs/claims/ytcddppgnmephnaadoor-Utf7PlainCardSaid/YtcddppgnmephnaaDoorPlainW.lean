/-
  Utf7Plain: the walk.
-/
import Derived.Test.YtcddppgnmephnaaDoorPlainD
namespace Go.Proofs.YtcddppgnmephnaaDoor
set_option linter.unusedVariables false
open Go.RowKit Go.Lib

/-- v is a slice of bytes, wherever it lies, and these are they. -/
def RowB (w : World) (v : Value) (l : List Nat) : Prop :=
  ∃ a len cap, v = .slice a len cap ∧ l.length = len ∧ len ≤ cap ∧ cap ≤ maxLen ∧ (∀ n ∈ l, n < 256) ∧ (a = none → len = 0 ∧ cap = 0) ∧ ∀ x, a = some x → ∀ i, (h : i < l.length) → w.cell? (x.add i) = some (.int .u8 (l[i] : Nat))

theorem rowB_nil (w : World) : RowB w (.slice none 0 0) [] := ⟨none, 0, 0, rfl, rfl, Nat.le_refl _, by decide, by simp, fun _ => ⟨rfl, rfl⟩, by simp⟩

theorem rowB_of_ints {w : World} {a : Addr} {len cap : Nat} {zs : List Int} (hl : len ≤ cap) (hm : cap ≤ maxLen) (hz : zs.length = cap)
    (hcell : ∀ i, i < zs.length → w.cell? (a.add i) = some (.int .u8 (zs.getD i 0))) (hwz : ∀ n ∈ zs, (Lit.int .u8 n).wf = true) :
    RowB w (.slice (some a) len cap) ((zs.take len).map Int.toNat) := by
  have hlen : ((zs.take len).map Int.toNat).length = len := by simp; omega
  refine ⟨some a, len, cap, rfl, hlen, hl, hm, ?_, by simp, ?_⟩
  · intro n hn
    obtain ⟨z, hz', rfl⟩ := List.mem_map.1 hn
    have := Go.bounds_u8 (hwz z (List.mem_of_mem_take hz'))
    omega
  · intro x hx i hi
    obtain rfl := Option.some.inj hx
    rw [hlen] at hi
    have hiz : i < zs.length := by omega
    have hb := Go.bounds_u8 (hwz zs[i] (List.getElem_mem hiz))
    rw [hcell i hiz]
    have : zs.getD i 0 = zs[i] := by simp [List.getD, hiz]
    rw [this]
    simp
    omega

theorem RowB.lt {w : World} {v : Value} {l : List Nat} (h : RowB w v l) : ∀ n ∈ l, n < 256 := by
  obtain ⟨a, len, cap, e, hl, hc, hm, hw, _⟩ := h
  exact hw

theorem RowB.below {w w1 : World} {v : Value} {l : List Nat} (h : RowB w v l) (hb : Below w.heap.size w w1) : RowB w1 v l := by
  obtain ⟨a, len, cap, e, hl, hc, hm, hw, hn, hcell⟩ := h
  refine ⟨a, len, cap, e, hl, hc, hm, hw, hn, fun x hx i hi => ?_⟩
  have h1 := hcell x hx i hi
  rw [hb.cell (World.block_lt_of_cell? w _ h1)]
  exact h1


def signN (n : Nat) : Nat := 32 + n % 95
def plainT : List Nat → List UInt8
  | [] => []
  | n :: ns => if signN n = 38 then plainT ns else (signN n).toUInt8 :: plainT ns
theorem plainT_append : ∀ a b : List Nat, plainT (a ++ b) = plainT a ++ plainT b
  | [], b => rfl
  | n :: ns, b => by
    simp only [List.cons_append, plainT]
    rw [plainT_append ns b]
    split <;> simp
theorem plainT_plain : ∀ l : List Nat, PlainL (plainT l)
  | [] => ⟨by simp [plainT]⟩
  | n :: ns => by
    have ih := plainT_plain ns
    have hn : 32 ≤ signN n ∧ signN n ≤ 126 := by unfold signN; omega
    have ht : (signN n).toUInt8.toNat = signN n := by rw [Nat.toUInt8_eq, UInt8.toNat_ofNat']; omega
    unfold plainT
    split
    · exact ih
    · rename_i h
      refine ⟨fun c hc => ?_⟩
      rcases List.mem_cons.1 hc with rfl | h2
      · rw [ht]; exact ⟨hn.1, hn.2, h⟩
      · exact ih.all c h2
theorem plainT_length : ∀ l : List Nat, (plainT l).length ≤ l.length
  | [] => by simp [plainT]
  | n :: ns => by
    have := plainT_length ns
    unfold plainT
    split <;> simp <;> omega

/-- one byte of the call's own, as a text; no order is drawn -/
theorem conv1p (w : World) (r : Nat) (hr : r ≤ 255) : (convert 29 9 (.slice (some ⟨w.heap.size, 0, none⟩) 1 1)).run Tryd.prog (w.alloc (.cells #[.int .u8 (r : Int)] 5)) = .ok (.string (strL [r.toUInt8])) (w.alloc (.cells #[.int .u8 (r : Int)] 5)) := by
  have h := run_convert_bytes_back (P := Tryd.prog) (w.alloc (.cells #[.int .u8 (r : Int)] 5)) 29 9 5 ⟨w.heap.size, 0, none⟩ 1 [r.toUInt8] Tryd.underlying29 Tryd.underlying5 Tryd.underlying9 ?_
  · exact h
  · intro j hj
    obtain rfl : j = 0 := by simpa using hj
    have e : (w.alloc (.cells #[.int .u8 (r : Int)] 5)).cell? ⟨w.heap.size, 0, none⟩ = some (.int .u8 (r : Int)) := (cell_of_row (w.alloc (.cells #[.int .u8 (r : Int)] 5)) _ 0 _ 5 (0, 0) (heap_alloc_new w _))
    rw [show (⟨w.heap.size, 0, none⟩ : Addr).add 0 = ⟨w.heap.size, 0, none⟩ from rfl, e]
    have : (r.toUInt8.toNat : Int) = (r : Int) := by rw [Nat.toUInt8_eq, UInt8.toNat_ofNat']; omega
    simp
    omega

set_option maxHeartbeats 1000000 in
set_option maxRecDepth 100000 in
theorem plainlaw_any (v : Value) (l : List Nat) (w : World) (hr : RowB w v l) (hT : Tabs w) : Calls Tryd.prog 8 #[v] w fun e w' => e = .returned (.bool true) ∧ Below w.heap.size w w' := by
  obtain ⟨a, len, cap, rfl, hl, hc, hm, hlt, hn, hcell⟩ := hr
  have haw := fun w hT => awake_any w hT
  have HAW := Lib.hid haw
  have HT := Lib.hid hT
  clear haw hT
  by_cases h200 : 200 < len
  · have hz : (200 : Int) < (len : Int) := by omega
    have h1 := HAW.out w HT.out
    clear h200 hl hc hm hn hcell
    go_enter Tryd.func8, Tryd.ntmps8
    go_wp2_with (go_at_call 12; refine h1.mono ?_; rintro e w1 ⟨rfl, hb1⟩; have HB1 := Lib.hid hb1; clear hb1)
    exact bodyPost_ret (v := .bool true) (by simp [results, Tryd.results8, go_sem]) rfl ⟨rfl, HB1.out⟩
  · have hz : decide ((200 : Int) < (len : Int)) = false := decide_eq_false (by omega)
    have HL := Lib.hid (And.intro hl h200)
    have HC := Lib.hid (And.intro hn hcell)
    clear hl h200 hn hcell
    go_enter Tryd.func8, Tryd.ntmps8
    go_wp2
    go_loopw [3, 4] (fun s i wr => ∃ k : Nat, k ≤ len ∧ i = .int .i64 k ∧ s = .string (strL (plainT (l.take k))) ∧ Below w.heap.size w wr) (fun _ i _ => len - (RowKit.intOf i).toNat)
    case atStart => exact ⟨0, by omega, rfl, rfl, Below.refl _ _⟩
    case round =>
      obtain ⟨k, hk, rfl, rfl, hbw⟩ := hrel
      have hsz := hbw.size
      have HB := Lib.hid hbw
      by_cases hkl : k < len
      · have hkz : (k : Int) < (len : Int) := by omega
        have hkl2 : k < l.length := by have := HL.out.1; omega
        obtain ⟨b, off, rfl, hcl⟩ : ∃ b off, a = some ⟨b, off, none⟩ ∧ w.cell? ⟨b, off + k, none⟩ = some (.int .u8 (l[k] : Nat)) := by
          cases a with
          | none => have := HC.out.1 rfl; omega
          | some x =>
            obtain ⟨b, off, spot⟩ := x
            have hc0 := HC.out.2 _ rfl k hkl2
            have hspot : spot = none := by
              cases spot with
              | none => rfl
              | some q =>
                have hc1 := HC.out.2 _ rfl 0 (by omega)
                have := World.cell?_spot hc1
                simp [Addr.add] at this
            subst hspot
            rw [Addr.add_lit] at hc0
            exact ⟨b, off, rfl, hc0⟩
        have hblt := World.block_lt_of_cell? w _ hcl
        have hcell2 := (hbw.cell (p := ⟨b, off + k, none⟩) hblt).trans hcl
        obtain ⟨x, hx⟩ : ∃ x, l[k] = x := ⟨_, rfl⟩
        have hx256 : x < 256 := by rw [← hx]; exact hlt _ (List.getElem_mem hkl2)
        rw [hx] at hcell2
        have htk : plainT (l.take (k + 1)) = plainT (l.take k) ++ plainT [x] := by rw [← plainT_append, ← hx, List.take_append_getElem hkl2]
        have hlen1 := plainT_length (l.take k)
        have hlen2 : (l.take k).length ≤ 200 := by simp; have := HL.out; omega
        obtain ⟨c, hcx⟩ : ∃ c, signN x = c := ⟨_, rfl⟩
        have hc1 : 32 ≤ c ∧ c ≤ 126 := by rw [← hcx]; unfold signN; omega
        have hrem : (x : Int).tmod 95 = ((c : Int) - 32) := by
          rw [Int.tmod_eq_emod_of_nonneg (by omega), ← hcx]
          unfold signN
          omega
        have hk1 : (k : Int) + 1 ≤ 9223372036854775807 := by have := HL.out; omega
        have hadd : (32 : Int) + ((c : Int) - 32) = (c : Int) := by omega
        have HTK := Lib.hid htk
        clear hbw htk hx hcl
        by_cases h38 : c = 38
        · have hpl : plainT (l.take (k + 1)) = plainT (l.take k) := by
            rw [HTK.out]
            simp [plainT, hcx, h38]
          have HPL := Lib.hid hpl
          subst h38
          clear hpl hcx
          go_wp2
          go_roundw
          case rel => exact ⟨k + 1, by omega, by simp, by rw [HPL.out], HB.out⟩
          case measure => simp [RowKit.intOf]; omega
        · have hpl : plainT (l.take (k + 1)) = plainT (l.take k) ++ [c.toUInt8] := by
            rw [HTK.out]
            simp [plainT, hcx, h38]
          have HPL := Lib.hid hpl
          have hz38 : ((c : Int) != 38) = true := by simp; omega
          have hconv := conv1p wr c (by omega)
          obtain ⟨A, hA⟩ : ∃ A, strL (plainT (l.take k)) = A := ⟨_, rfl⟩
          obtain ⟨C, hC⟩ : ∃ C, strL [c.toUInt8] = C := ⟨_, rfl⟩
          obtain ⟨D, hD⟩ : ∃ D, strL (plainT (l.take (k + 1))) = D := ⟨_, rfl⟩
          have hcat : ∀ w : World, (Op.stringOp .add A C).run Tryd.prog w = .ok (.string D) w := fun w => by
            rw [← hA, ← hC, ← hD, hpl]
            exact cat_any _ _ (by simp; omega) w
          rw [hC] at hconv
          rw [hA]
          have HD := Lib.hid hD
          clear hpl hcx h38 hA hC hD
          have hsz2 : w.heap.size ≤ wr.heap.size := hsz
          go_wp2
          go_roundw
          case rel => exact ⟨k + 1, by omega, by simp, by rw [HD.out], HB.out.alloc hsz2 _⟩
          case measure => simp [RowKit.intOf]; omega
      · have hkz : ¬ ((k : Int) < (len : Int)) := by omega
        have htk : l.take k = l := List.take_of_length_le (by have := HL.out.1; omega)
        rw [htk]
        have hpp := plainT_plain l
        have hpl := plainT_length l
        have hll : l.length ≤ 200 := by have := HL.out; omega
        have he := fun w hT => enc_str (plainT l) (by omega) w hT
        rw [encV_yes _ (runes_plain _ hpp).2, encS_plain _ hpp] at he
        have hd := fun w hT => dec_plain (plainT l) hpp (by omega) w hT
        have HE := Lib.hid he
        have HD := Lib.hid hd
        have HTr := Lib.hid (HT.out.below hbw HT.out.size)
        obtain ⟨S, hS⟩ : ∃ S, strL (plainT l) = S := ⟨_, rfl⟩
        rw [hS] at HE HD ⊢
        clear hbw htk hpp hpl he hd hS
        go_wp2_with (first
          | (go_at_call 10; refine (HE.out _ HTr.out).mono ?_; rintro e w1 ⟨rfl, hb1⟩; have HB1 := Lib.hid (HB.out.trans (hb1.mono hsz)); have hs1 := hb1.size; have HT1 := Lib.hid (HTr.out.below hb1 HTr.out.size); clear hb1)
          | (go_at_call 13; refine (HD.out _ HT1.out).mono ?_; rintro e w2 ⟨rfl, hb2⟩; have HB2 := Lib.hid (HB1.out.trans (hb2.mono (by omega))); have hs2 := hb2.size; have HT2 := Lib.hid (HT1.out.below hb2 HT1.out.size); clear hb2)
          | (go_at_call 12; refine (HAW.out _ HT2.out).mono ?_; rintro e w3 ⟨rfl, hb3⟩; have HB3 := Lib.hid (HB2.out.trans (hb3.mono (by omega))); clear hb3))
        all_goals (go_ret; exact ⟨rfl, HB3.out⟩)
end Go.Proofs.YtcddppgnmephnaaDoor
