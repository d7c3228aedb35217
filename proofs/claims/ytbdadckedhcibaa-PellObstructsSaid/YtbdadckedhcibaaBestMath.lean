/- Plain numbers for the best fraction: what the reference's nearer and Best answer, and a check that the kernel runs that says that they are convergents. No condition beyond those stated. -/
import Derived.Test.YtbdadckedhcibaaRatioMath
namespace Go.Proofs.Ytbdadckedhcibaa
open Go.RowKit Go.Shelf

/-- The last step of nearer. -/
def nearL (d x y : Int) : Bool :=
  bif decide (0 ≤ x) && decide (y ≤ 0) then false
  else bif decide (x ≤ 0) && decide (0 ≤ y) then !decide (x = 0) || !decide (y = 0)
  else bif decide (0 < x) then decide (d * x * x < y * y)
  else decide (y * y < d * x * x)
/-- The sign of a value. -/
def sgF (d q p : Int) : Int := bif decide (d * q * q < p * p) then -1 else 1
def nearF (d p q u v : Int) : Bool := nearL d (sgF d q p * q - sgF d v u * v) (sgF d q p * p - sgF d v u * u)
def pickF (d p q : Int) (S : Int × Int) : Int × Int := bif decide (S.2 = 0) || nearF d p q S.1 S.2 then (p, q) else S
def stepR (d q r : Int) (S : Int × Int) : Int × Int := pickF d (r + 1) q (pickF d r q S)
def stepF (d q : Int) (S : Int × Int) : Int × Int := stepR d q (rootF (d * q * q)) S
def bestR (d : Int) : Nat → Int × Int
  | 0 => (0, 0)
  | q + 1 => stepF d ((q : Int) + 1) (bestR d q)

/-- From denominator q on: r is the root, (P, Q) the convergent k, the next one is (P', Q'). -/
noncomputable def bScan (D a : Nat) (f : Nat) : Nat → Nat → Nat → Int → Int → Int → Nat → Bool :=
  Nat.rec (motive := fun _ => Nat → Nat → Nat → Int → Int → Int → Nat → Bool) (fun _ _ _ _ _ _ _ => true)
    (fun _ ih q r k P Q P' Q' => bif Nat.ble (r * r) (D * (q * q)) then bif Nat.ble ((r + 1) * (r + 1)) (D * (q * q)) then false else
      bif Nat.ble (q + 1) Q' then
        bif nearF D r q P Q then false else bif nearF D (r + 1 : Nat) q P Q then false else
        ih (q + 1) (bif Nat.ble ((r + a + 1) * (r + a + 1)) (D * ((q + 1) * (q + 1))) then r + a + 1 else r + a) k P Q P' Q'
      else bif decide (stepR D q r (P, Q) = (P', (Q' : Int))) && Nat.beq q Q' && decide (cvP D (k + 1) = P') && decide (cvQ D (k + 1) = (Q' : Int)) && decide (Q' < cvQ D (k + 2)) then
        ih (q + 1) (bif Nat.ble ((r + a + 1) * (r + a + 1)) (D * ((q + 1) * (q + 1))) then r + a + 1 else r + a) (k + 1) P' Q' (cvP D (k + 2)) (cvQ D (k + 2)).toNat
      else false else false) f
noncomputable def bScanD (d : Nat) : Bool :=
  decide (stepF d 1 (0, 0) = (cvP d (bK d 1), cvQ d (bK d 1))) &&
  bScan d (rootF d).toNat 999 2 (rootF (d * 2 * 2)).toNat (bK d 1) (cvP d (bK d 1)) (cvQ d (bK d 1)) (cvP d (bK d 1 + 1)) (cvQ d (bK d 1 + 1)).toNat
noncomputable def bestCheck (lo n : Nat) : Bool := allBelow n fun d => !isD (d + lo : Nat) || bScanD (d + lo)
end Go.Proofs.Ytbdadckedhcibaa
