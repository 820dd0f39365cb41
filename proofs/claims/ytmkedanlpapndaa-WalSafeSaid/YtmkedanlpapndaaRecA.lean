/-
  record, at any sectors: what it answers, as a function; a round of it.
-/
import Derived.Test.YtmkedanlpapndaaGreat
import Derived.Test.YtmkedanlpapndaaTake
namespace Go.Proofs.Ytmkedanlpapndaa
set_option linter.unusedVariables false
open Go.RowKit

/-- is the cell c the one that part `part` of a record has, behind the cell `last` -/
def fitC (c : List Nat) (last part : Nat) : Bool := okCell c && decide (numN c 9 8 = last) && decide (numN c 21 2 = part) && decide (numN c 17 4 ≤ 65536)
/-- the record at the log's end, from part `part` on: how many cells, the last one's number, the bytes -/
def recR (L : Nat → List Nat) (ring place used : Nat) : Nat → Nat → Nat → Nat → Nat → List Nat → Option (Nat × Nat × List Nat)
  | 0, _, _, _, _, _ => none
  | m + 1, part, cells, last, size, data =>
    if part < cells then
      if ring < used + cells then none
      else if fitC (L ((place + part) % ring)) last part then
        (if part = 0 then
          recR L ring place used m 1 (cellsN (numN (L ((place + part) % ring)) 17 4)) (numN (L ((place + part) % ring)) 1 8) (numN (L ((place + part) % ring)) 17 4) (data ++ ((L ((place + part) % ring)).take 63).drop 23)
         else if numN (L ((place + part) % ring)) 17 4 = size then
          recR L ring place used m (part + 1) cells (numN (L ((place + part) % ring)) 1 8) size (data ++ ((L ((place + part) % ring)).take 63).drop 23)
         else none)
      else none
    else if ring < used + cells then none else some (cells, last, data.take size)

/-- what record has in hand between two rounds -/
structure RecI (w wr : World) (q : Nat) (s : LgS) (L : Nat → List Nat) (R : Option (Nat × Nat × List Nat)) (part cells last size : Nat) (dv : Value) (data : List Nat) : Prop where
  below : Below w.heap.size w wr
  zero : wr.heap[w.heap.size]? = some (.cells #[.int .i64 0, .int .u64 0, .int .i64 0, .slice none 0 0] 80 (0, 0))
  ent : wr.heap[q]? = some (.cells #[.int .i64 (s.place : Nat), .int .u64 (s.last : Nat), .int .i64 (cells : Nat), dv] 80 (0, 0))
  own : OwnB wr w.heap.size dv data
  fn : recR L s.ring s.place s.used (3000 - part) part cells last size data = R
  le : part ≤ cells
  cl : cells ≤ 1640
  len : data.length = 40 * part
  sz : size ≤ 65536
  lt : ∀ n ∈ data, n < 256
  of : (part = 0 ∧ cells = 1) ∨ (0 < part ∧ cells = cellsN size)
theorem ownB_beside80 {w w' : World} {B p : Nat} {cs : Array Value} {fr : Nat × Nat} {v : Value} {l : List Nat} (h : OwnB w B v l) (hb : Beside (fun k => k = p) w w') (hp : w.heap[p]? = Option.some (Obj.cells cs 80 fr)) : OwnB w' B v l := by
  refine ownsRow_beside h hb ?_
  intro k hk e
  have e2 : k = p := e
  rw [e2] at hk
  exact ownsRow_ne (e := 5) h hp (by decide) p hk rfl
theorem wrap_sum (a b : Nat) (h : a + b ≤ 1000000) : IntKind.i64.wrap ((a : Int) + (b : Int)) = (a : Int) + (b : Int) := by
  simp [IntKind.wrap, IntKind.bits, IntKind.signed]
  omega
end Go.Proofs.Ytmkedanlpapndaa
