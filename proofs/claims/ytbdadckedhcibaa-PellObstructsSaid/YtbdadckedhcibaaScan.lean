/- Plain numbers for the convergents of a square root: the count of primitive solutions of small numbers, as a check that the kernel runs. No condition beyond those that each theorem names. -/
import Derived.Test.YtbdadckedhcibaaBest
namespace Go.Proofs.Ytbdadckedhcibaa
open Go.RowKit Go.Shelf

/-- How many convergents are asked for and answered. -/
def rN (d : Int) : Nat := min 21 (cvStop d)
def isConv (d x y : Int) : Bool := (List.range (rN d)).any fun k => (cvP d (k + 1) == x) && (cvQ d (k + 1) == y)

def pOk (D x y : Nat) : Bool :=
  let s := x * x
  let t := D * (y * y)
  let m := (s - t) + (t - s)
  bif Nat.ble D (m * m) then true else bif Nat.beq (Nat.gcd x y) 1 then isConv D x y else true
noncomputable def pScan (D a : Nat) (f : Nat) : Nat → Nat → Bool :=
  Nat.rec (motive := fun _ => Nat → Nat → Bool) (fun _ _ => true)
    (fun _ ih y r => bif Nat.ble (r * r) (D * (y * y)) then bif Nat.ble ((r + 1) * (r + 1)) (D * (y * y)) then false else
      bif pOk D r y then bif pOk D (r + 1) y then
        ih (y + 1) (bif Nat.ble ((r + a + 1) * (r + a + 1)) (D * ((y + 1) * (y + 1))) then r + a + 1 else r + a)
      else false else false else false) f
noncomputable def pScanD (d : Nat) : Bool := pScan d (rootF d).toNat 5000 1 (rootF d).toNat
/-- The check for the numbers from lo, n of them. -/
noncomputable def scanCheck (lo n : Nat) : Bool := allBelow n fun d => !isD (d + lo : Nat) || pScanD (d + lo)
end Go.Proofs.Ytbdadckedhcibaa
