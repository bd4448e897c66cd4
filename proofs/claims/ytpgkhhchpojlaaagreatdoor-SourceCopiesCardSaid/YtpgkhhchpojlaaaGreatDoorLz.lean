/- What a deed answers, and what it leaves; two new blocks. -/
import Derived.Test.YtpgkhhchpojlaaaGreatDoorDa
namespace Go.Proofs.YtpgkhhchpojlaaaGreatDoor
open Go.RowKit Go.Maps Go.WideMaps
/-- What a deed answers and leaves. -/
def oddB (n : Int) : Bool := n.tmod 2 != 0
def ddL (fs : List Fr) (d : Dd) : Ln := if d.what = 3 then nxL fs else if d.what = 4 then nxL fs else zLn
def ddE (fs : List Fr) (d : Dd) : Int :=
  if d.what = 0 then putE (nmdB d.name && rdB d.text) fs else if d.what = 1 then putE (nmdB d.name && lsOk d.lines) fs else if d.what = 2 then putE (lsOk d.lines) fs
  else if d.what = 3 then nxE fs else if d.what = 4 then nxE fs else if d.what = 5 then rtE fs else if d.what = 6 then inE (nmdB d.name && rdB d.text) fs else if d.what = 7 then shE fs d.n else 0
def ddF (fs : List Fr) (d : Dd) : List Fr :=
  if d.what = 0 then putF (nmdB d.name && rdB d.text) fs (filFr d.name d.text) else if d.what = 1 then putF (nmdB d.name && lsOk d.lines) fs (macFr d.name d.lines d.args) else if d.what = 2 then putF (lsOk d.lines) fs (waiFr d.lines)
  else if d.what = 3 then nxF fs else if d.what = 4 then fs else if d.what = 5 then rtF (oddB d.n) fs else if d.what = 6 then inF (nmdB d.name && rdB d.text) fs (filFr d.name d.text) else if d.what = 7 then shF fs d.n else fs
def ddV (d : Dd) (A : Option Addr) (n c : Nat) (A2 : Option Addr) (n2 c2 : Nat) : Value := .agg #[.int .i64 d.what, .string d.name, .string d.text, .slice A n c, .slice A2 n2 c2, .int .i64 d.n]
theorem blk_at2 {w : World} {t : TypeId} {cs : Array Value} {k : Nat} (h : w.heap.size = k) : Blk (w.alloc (.cells cs t)) k t cs := by subst h; exact Blk.new _ _ _
section
variable {U K : Nat → Prop} {w w' : World} {x : Nat} {fs : List Fr}
/-- The two blocks that a deed lays at its beginning. -/
structure Two (w w0 : World) : Prop where
  below : Below w.heap.size w w0
  size : w0.heap.size = w.heap.size + 2
  res : Blk w0 (w.heap.size + 1) 31 #[.string ⟨#[]⟩, .bool false, .int .i64 0, .int .i64 0, .slice none 0 0]
end
end Go.Proofs.YtpgkhhchpojlaaaGreatDoor
