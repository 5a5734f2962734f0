/-
  What holds of all orders of up to 4 points: turned, covered, bounded, laid out in ways.
-/
import Derived.Test.YtnmgoeklcmoalaaOV
import Derived.Test.YtnmgoeklcmoalaaOD
import Derived.Test.YtnmgoeklcmoalaaOM
import Derived.Test.YtnmgoeklcmoalaaOC
import Derived.Test.YtnmgoeklcmoalaaEN
namespace Go.Proofs.Ytnmgoeklcmoalaa
open Go.RowKit

/-- the first way -/
def firstL0 (xs : List Int) : List Int := (waysL xs).headD []
def turF (xs : List Int) : Bool := ordB (turnL xs) && decide ((waysL (turnL xs)).length = (waysL xs).length)
theorem tur_all : ∀ xs ∈ ords, turF xs = true := by decide +kernel
def covF (xs : List Int) : Bool := decide (starL (covL xs) = xs) && kindI (covL xs) && relIn (covL xs)
theorem cov_all : ∀ xs ∈ ords, covF xs = true := by decide +kernel
def stsF (xs : List Int) : Bool := decide (starL xs = xs)
theorem sts_all : ∀ xs ∈ ords, stsF xs = true := by decide +kernel
def latF (xs : List Int) : Bool := !latTo xs (2 ^ xs.length) || (latTo (turnL xs) (2 ^ xs.length) && decide (((firstL0 xs).getD 0 0) = (((bndO xs 0).getD 0 : Nat) : Int)) && (bndO xs 0).isSome)
theorem lat_all : ∀ xs ∈ ords, latF xs = true := by decide +kernel
/-- the product of the numbers up to n -/
def facN : Nat → Nat
  | 0 => 1
  | n + 1 => (n + 1) * facN n
def wayF (xs : List Int) : Bool := decide ((waysL xs).length ≤ facN xs.length) && (decide ((waysL xs).length = facN xs.length) == decide (xs = sameL xs.length)) && (decide ((waysL xs).length = 1) == kindC xs)
theorem wayF_all : ∀ xs ∈ ords, wayF xs = true := by decide +kernel
/-- the points seen among the first k of a way -/
def seenW (f : List Int) (k : Nat) : Int := (f.take k).foldl (fun s v => bits .or .i64 s (2 ^ v.toNat)) 0
def oneF (xs : List Int) : Bool := decide ((firstL0 xs).length = xs.length) && ((List.range xs.length).all fun k => decide (0 ≤ rowAt (firstL0 xs) k) && decide (rowAt (firstL0 xs) k < xs.length) &&
  (bits .and .i64 (rowAt xs (rowAt (firstL0 xs) k).toNat) (seenW (firstL0 xs) k) == 0) && !bitB (seenW (firstL0 xs) k) (rowAt (firstL0 xs) k).toNat) && decide (seenW (firstL0 xs) xs.length = 2 ^ xs.length - 1)
theorem one_all : ∀ xs ∈ ords, oneF xs = true := by decide +kernel
def bndF (xs : List Int) : Bool := (List.range (2 ^ xs.length)).all fun z => match bndO xs (z : Int) with
  | none => true
  | some k => decide (bndO xs (bits .or .i64 (z : Int) (pt k)) = some k) && ((List.range xs.length).all fun i => !bitB (z : Int) i || bitB (rowAt xs i) k)
theorem bnd_all : ∀ xs ∈ ords, bndF xs = true := by decide +kernel
end Go.Proofs.Ytnmgoeklcmoalaa
