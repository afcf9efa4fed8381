/- Plain facts on interrupt lines: what an operation makes of a line, when lines are right, what a run makes of them. No program in sight. -/
namespace Go.Proofs.Ytmldedkmmhnihaa

/-- A line. -/
structure PinT where
  core : Int
  vec : Int
  level : Bool
  masked : Bool
  up : Bool
  kept : Bool
  sent : Bool
def PinT.move (p : PinT) (k : Int) : PinT :=
  if k = 1 then { p with up := true } else if k = 2 then { p with up := false } else if k = 3 then { p with masked := true } else if k = 4 then { p with masked := false } else if k = 5 then { p with sent := false } else p
/-- Behind the operation the line may send. -/
def PinT.settle (was : Bool) (q : PinT) : PinT × Bool :=
  if q.level = true then ({ q with sent := q.sent || (q.up && !q.masked && !q.sent) }, q.up && !q.masked && !q.sent)
  else if ((q.kept || (q.up && !was)) && !q.masked) = true then ({ q with kept := false }, true) else ({ q with kept := q.kept || (q.up && !was) }, false)
def pinStep (p : PinT) (k : Int) : PinT × Bool := (p.move k).settle p.up
def PinT.ok (p : PinT) : Bool :=
  (decide (0 ≤ p.core) && decide (p.core < 8) && decide (32 ≤ p.vec) && decide (p.vec < 256)) && (if p.level = true then !p.kept && (p.sent || p.masked || !p.up) else !p.sent && (p.masked || !p.kept))
end Go.Proofs.Ytmldedkmmhnihaa
