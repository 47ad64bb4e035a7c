/-
  What makes a tree right, as plain mathematics. No condition.
-/
import Derived.Test.YtofadlenblobnaaTMath
import Derived.Test.YtofadlenblobnaaLMath
namespace Go.Proofs.Ytofadlenblobnaa.Tre
set_option maxRecDepth 100000
def nameB (s : ByteArray) : Bool := Lex.nameOk s.data.toList
def wordB (s : ByteArray) : Bool := nameB s || Lex.keyB s.data.toList
def partsI (op : Int) : Int := if op == 1 || op == 2 || op == 3 then 0 else if op == 5 || op == 6 then 1 else if decide (7 ≤ op) && decide (op ≤ 19) then 2 else -1
def numOk (e : Ex) : Bool := if e.op == 1 then decide (0 ≤ e.n) else if e.op == 2 then e.n == 0 || e.n == 1 else e.n == 0
def namesOk (e : Ex) : Bool := if e.op == 3 then nameB e.s && e.q.toList == [] else if e.op == 4 then nameB e.s && (e.q.toList == [] || nameB e.q) else e.s.toList == [] && e.q.toList == []
def partsOk (e : Ex) : Bool := if e.op == 4 then decide (e.x.length ≤ 255) else (e.x.length : Int) == partsI e.op
def rX (e : Ex) : Bool := numOk e && namesOk e && partsOk e
def rExpr (e : Ex) : Bool := (flat e).all rX
def targetOk (s : St) : Bool := if s.op == 1 || s.op == 2 then nameB s.s else s.s.toList == []
def blocksOk (s : St) : Bool := if s.op == 3 then true else if s.op == 4 then s.b2.length == 0 else s.b.length == 0 && s.b2.length == 0
def askedOk (s : St) : Bool :=
  if s.op == 1 || s.op == 2 || s.op == 3 || s.op == 4 || s.op == 6 then rExpr s.e else if s.op == 5 then zeroX s.e || rExpr s.e else if s.op == 7 then s.e.op == 4 && rExpr s.e else if s.op == 8 || s.op == 9 then zeroX s.e else false
def rStmt (s : St) : Bool := targetOk s && blocksOk s && askedOk s
def valB (t : Int) : Bool := t == 1 || t == 2
def wPar (p : Par) : Bool := !nameB p.s || !valB p.t
def wFn (f : Fn) : Bool := !nameB f.s || decide (4 < f.p.length) || f.p.any wPar || (!(f.r == 0) && !valB f.r) || !(flatB f.b).all rStmt
def rHead (f : Fl) : Bool := wordB f.s && decide (f.i.length ≤ 8) && decide (f.f.length ≤ 32) && !f.i.any (fun s => !wordB s)
def rFile (f : Fl) : Bool := rHead f && !f.f.any wFn
end Go.Proofs.Ytofadlenblobnaa.Tre
