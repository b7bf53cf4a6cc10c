/- Slices of bytes as plain data: a slice, and the bytes that it reads as. -/
import Derived.Test.YtdmbbbljamjhkaaBase
namespace Go.Proofs.Ytdmbbbljamjhkaa
open Go.RowKit

/-- A slice of bytes, and what it reads as. -/
structure Part where
  a : Option Addr
  n : Nat
  c : Nat
  l : List UInt8
def Part.val (p : Part) : Value := .slice p.a p.n p.c
def Part.ok (w : World) (B : Nat) (p : Part) : Prop := Bytes w B p.a p.n p.l ∧ p.n ≤ 140737488355328
def allOf (ps : List Part) : List UInt8 := ps.flatMap (·.l)
end Go.Proofs.Ytdmbbbljamjhkaa
