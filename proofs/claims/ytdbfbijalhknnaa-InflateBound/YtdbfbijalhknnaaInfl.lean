/-
  What a stream comes to, in plain lists of bits and bytes (no program in sight).
-/
import Derived.Test.YtdbfbijalhknnaaHKraft
import Derived.Test.YtdbfbijalhknnaaTTab
namespace Go.Proofs.Ytdbfbijalhknnaa
open Hf Tb
set_option linter.unusedVariables false
set_option linter.unusedSimpArgs false

abbrev Bts := List Bool
/-- One behind the other. -/
def bnd {α β : Type} (f : Bts → Option (α × Bts)) (g : α → Bts → Option (β × Bts)) (L : Bts) : Option (β × Bts) :=
  match f L with
  | none => none
  | some (x, L1) => g x L1
def retL {α : Type} (x : α) (L : Bts) : Option (α × Bts) := some (x, L)
def noL {α : Type} (L : Bts) : Option (α × Bts) := none

def getL (k : Nat) (L : Bts) : Option (Nat × Bts) := if k ≤ L.length then some (val (L.take k), L.drop k) else none
/-- A number that is told by what it lies above another one. -/
def aboveL (a k : Nat) : Bts → Option (Nat × Bts) := bnd (getL k) (fun m => retL (a + m))

/-- The symbol whose code the next bits are: as many as n bits are still read, k were, they are v. -/
def symG (ys : List Int) : Nat → Nat → Nat → Bts → Option (Nat × Bts)
  | 0, _, _, _ => none
  | _ + 1, _, _, [] => none
  | n + 1, k, v, b :: L =>
    match findL ys ((k + 1 : Nat) : Int) ((2 * v + b.toNat : Nat) : Int) with
    | some i => some (i, L)
    | none => symG ys n (k + 1) (2 * v + b.toNat) L
def symN (ys : List Int) (L : Bts) : Option (Nat × Bts) := symG ys 15 0 0 L

def sprL (i : Nat) : Bts → Option (Nat × Bts) := if 257 ≤ i ∧ i ≤ 285 then aboveL (lenF (i - 257)).1 (lenF (i - 257)).2 else noL
def sprD (i : Nat) : Bts → Option (Nat × Bts) := if i ≤ 29 then aboveL (dstF i).1 (dstF i).2 else noL

abbrev Rs := Except Int (Bts × List Nat)
def errE {α : Type} : Except Int α → Int
  | .ok _ => 0
  | .error e => e

def cpy (most d : Nat) : Nat → List Nat → Except Int (List Nat)
  | 0, o => .ok o
  | n + 1, o => if o.length = most then .error 701 else cpy most d n (o ++ [o.getD (o.length - d) 0])
def put1 (most c : Nat) (o : List Nat) : Except Int (List Nat) := if o.length = most then .error 701 else .ok (o ++ [c])
def putC (most n d : Nat) (o : List Nat) : Except Int (List Nat) := if o.length < d then .error 700 else cpy most d n o
/-- Bits first, what they tell behind. -/
def thenE {α : Type} (f : Bts → Option (α × Bts)) (g : α → Bts → List Nat → Rs) (L : Bts) (o : List Nat) : Rs :=
  match f L with
  | none => .error 700
  | some (x, L1) => g x L1 o
def mapE (f : List Nat → Except Int (List Nat)) (L : Bts) (o : List Nat) : Rs :=
  match f o with
  | .error e => .error e
  | .ok o' => .ok (L, o')
def seqE (f g : Bts → List Nat → Rs) (L : Bts) (o : List Nat) : Rs :=
  match f L o with
  | .error e => .error e
  | .ok r => g r.1 r.2

def told (ds : List Int) (most i : Nat) : Bts → List Nat → Rs :=
  if i < 256 then mapE (put1 most i)
  else thenE (sprL i) fun n => thenE (symN ds) fun f => thenE (sprD f) fun d => mapE (putC most n d)
def codedF (ys ds : List Int) (most : Nat) : Nat → Bts → List Nat → Rs
  | 0 => fun _ _ => .error 700
  | n + 1 => thenE (symN ys) fun i => if i = 256 then fun L o => .ok (L, o) else seqE (told ds most i) (codedF ys ds most n)
def coded (ys ds : List Int) (most : Nat) (L : Bts) (o : List Nat) : Rs := codedF ys ds most (L.length + 1) L o

def storedB (most : Nat) : Nat → Bts → List Nat → Rs
  | 0 => fun L o => .ok (L, o)
  | n + 1 => thenE (getL 8) fun b => seqE (mapE (put1 most b)) (storedB most n)
def alignL (L : Bts) : Bts := L.drop (L.length % 8)
def storedH (most : Nat) : Bts → List Nat → Rs :=
  thenE (getL 16) fun k => thenE (getL 16) fun m => if k + m = 65535 then storedB most k else fun _ _ => .error 700
def stored (most : Nat) (L : Bts) (o : List Nat) : Rs := storedH most (alignL L) o

/-- The lengths that a symbol stands for behind others. -/
def rle (i : Nat) (out : List Int) : Bts → Option (List Int × Bts) :=
  if i = 16 then (if out.length = 0 then noL else bnd (aboveL 3 2) fun m => retL (List.replicate m (at_ out (out.length - 1))))
  else if i = 17 then bnd (aboveL 3 3) fun m => retL (List.replicate m 0)
  else if i = 18 then bnd (aboveL 11 7) fun m => retL (List.replicate m 0)
  else retL [(i : Int)]
def runsF (ys : List Int) (many : Nat) : Nat → List Int → Bts → Option (List Int × Bts)
  | 0, _ => noL
  | n + 1, out => if out.length < many then bnd (symN ys) fun i => bnd (rle i out) fun r => runsF ys many n (out ++ r)
      else if out.length = many then retL out else noL
def runs (ys : List Int) (many : Nat) (out : List Int) : Bts → Option (List Int × Bts) := runsF ys many (many + 1 - out.length) out

def rowL : List Nat := [16, 17, 18, 0, 8, 7, 9, 6, 10, 5, 11, 4, 12, 3, 13, 2, 14, 1, 15]
def posR (j : Nat) : Nat := rowL.idxOf j
def clOf (t : List Int) : List Int := (List.range 19).map (fun j => t.getD (posR j) 0)
def threes : Nat → List Int → Bts → Option (List Int × Bts)
  | 0, acc => retL acc
  | n + 1, acc => bnd (getL 3) fun x => threes n (acc ++ [(x : Int)])
/-- May the lengths of both parts be? -/
def mayB (x : List Int) : Bool := decide (errC x = 0) && decide (0 < at_ x 256)
def mayD (y : List Int) : Bool := decide (y.sum ≤ 1) || decide (errC y = 0)
def dynP (a : Nat) (all : List Int) : Bts → Option ((List Int × List Int) × Bts) :=
  if mayB (all.take a) && mayD (all.drop a) then retL (all.take a, all.drop a) else noL
def dynC (a b : Nat) (t : List Int) : Bts → Option ((List Int × List Int) × Bts) :=
  if errC (clOf t) = 0 then bnd (runs (clOf t) (a + b) []) fun all => dynP a all else noL
def dynH : Bts → Option ((List Int × List Int) × Bts) :=
  bnd (aboveL 257 5) fun a => bnd (aboveL 1 5) fun b => if 286 < a ∨ 30 < b then noL else bnd (aboveL 4 4) fun c => bnd (threes c []) fun t => dynC a b t

def fixLs : List Int := List.replicate 144 8 ++ List.replicate 112 9 ++ List.replicate 24 7 ++ List.replicate 8 8
def fiveLs : List Int := List.replicate 30 5
def inside (most kind : Nat) : Bts → List Nat → Rs :=
  if kind = 0 then stored most else if kind = 1 then coded fixLs fiveLs most
  else if kind = 2 then thenE dynH fun xy => coded xy.1 xy.2 most else fun _ _ => .error 700
def blocksF (most : Nat) : Nat → Bts → List Nat → Rs
  | 0 => fun _ _ => .error 700
  | n + 1 => thenE (getL 1) fun l => thenE (getL 2) fun k => seqE (inside most k) (if l = 1 then fun L o => .ok (L, o) else blocksF most n)
def blocks (most : Nat) (L : Bts) (o : List Nat) : Rs := blocksF most (L.length + 1) L o
/-- All bits of a text. -/
def bitsL (s : List Nat) : Bts := readBits s 0 (8 * s.length)
def inflB (s : List Nat) (most : Nat) : Except Int (List Nat × Nat) :=
  match blocks most (bitsL s) [] with
  | .error e => .error e
  | .ok r => .ok (r.2, s.length - r.1.length / 8)
def inflP (s : List Nat) (most : Int) : Except Int (List Nat × Nat) := if 0 ≤ most ∧ most ≤ 8192 then inflB s most.toNat else .error 700

end Go.Proofs.Ytdbfbijalhknnaa
