/-
  The machine of layer 25, plainly: its words, its calls, one step, a run: no program in sight; no conditions but those that each fact bears.
-/
import Derived.Test.YtnlgkiejppgfjaaKVmZ
import Derived.Test.YtnlgkiejppgfjaaKCdA
import Derived.Test.YtnlgkiejppgfjaaKNuBaseE
namespace Go.Proofs.Ytnlgkiejppgfjaa
open Go.RowKit
set_option linter.unusedVariables false

/-- A program of the machine, and where its lists lie. -/
structure PIm where
  ws : List Int
  st : List Int
  fr : List Int
  da : List Int
  wa : Option Addr
  wc : Nat
  sa : Option Addr
  sc : Nat
  fa : Option Addr
  fc : Nat
  ea : Option Addr
  ec : Nat
def WdAt (w : World) (b o : Nat) (x : Int) : Prop := w.cell? ⟨b, o, none⟩ = some (.int .u64 x) ∧ Cd.U64 x
abbrev Wds (w : World) (a : Option Addr) (l : List Int) : Prop := Lst 1 (WdAt w) a l
theorem Wds.keep {w w' : World} (hb : Q w w') {a : Option Addr} {l : List Int} (h : Wds w a l) : Wds w' a l := h.mono fun _ _ _ hp => ⟨cell_keep hb hp.1, hp.2⟩
structure PIm.ok (w : World) (x : PIm) : Prop where
  wsok : sok 8 x.wa x.ws.length x.wc
  ws : Wds w x.wa x.ws
  ssok : sok 8 x.sa x.st.length x.sc
  st : Ints w x.sa x.st
  fsok : sok 8 x.fa x.fr.length x.fc
  fr : Ints w x.fa x.fr
  dsok : sok 8 x.ea x.da.length x.ec
  da : Ints w x.ea x.da
theorem PIm.ok.keep {w w' : World} (hb : Q w w') {x : PIm} (h : x.ok w) : x.ok w' := ⟨h.wsok, h.ws.keep hb, h.ssok, h.st.keep hb, h.fsok, h.fr.keep hb, h.dsok, h.da.keep hb⟩
abbrev PIm.v (x : PIm) : Value := .agg #[.slice x.wa x.ws.length x.wc, .slice x.sa x.st.length x.sc, .slice x.fa x.fr.length x.fc, .slice x.ea x.da.length x.ec]
def PIm.cells (x : PIm) : List Value := [.slice x.wa x.ws.length x.wc, .slice x.sa x.st.length x.sc, .slice x.fa x.fr.length x.fc, .slice x.ea x.da.length x.ec]

/-- Can it be run? -/
def oneP (n : Nat) (s f : Int) : Bool := decide (0 ≤ s) && decide (s < (n : Int)) && decide (0 ≤ f) && decide (f ≤ 65536)
def allP (n : Nat) : List Int → List Int → Bool
  | s :: l, f :: m => oneP n s f && allP n l m
  | _, _ => true
def formP (im : PIm) : Bool := decide (im.st.length ≠ 0) && decide (im.fr.length = im.st.length) && decide (im.ws.length ≤ 240000) && decide (im.da.length ≤ 65536) && allP im.ws.length im.st im.fr

/-- A call that is open. -/
structure Cl where
  rg : List Int
  gt : List Int
  rd : List Int
  pl : Nat
  ba : Nat
  an : Nat
inductive Rs where
  | go (mem : List Int) (cls : List Cl) (tr : List Int)
  | stop (t : Int)
  | halt (x : Int)
abbrev z8 : List Int := [0, 0, 0, 0, 0, 0, 0, 0]
abbrev z6 : List Int := [0, 0, 0, 0, 0, 0]
def fo (v : Int) : Int := v / 72057594037927936
def ft (v : Int) : Int := v / 4503599627370496 % 16
def fd (v : Int) : Int := v / 281474976710656 % 16
def fa (v : Int) : Int := v / 17592186044416 % 16
def fb (v : Int) : Int := v / 1099511627776 % 16
def fi (v : Int) : Int := v % 4294967296
def f0 (v : Int) : Int := v / 4294967296 % 256
def goodW (v : Int) : Bool := decide (f0 v = 0) && decide (fd v < 8) && decide (fa v < 8) && decide (fb v < 8) && decide (ft v ≤ 5)
def inM (mem : List Int) (a : Int) : Bool := decide (0 ≤ a) && decide (a < (mem.length : Int))
def getM (mem : List Int) (a : Int) : Int := mem.getD a.toNat 0
def beginP (im : PIm) (n : Nat) (got : List Int) (an : Nat) (mem : List Int) (cls : List Cl) : Option (List Int × List Cl) :=
  if im.st.length ≤ n ∨ cls.length = 2000 then none
  else if 65536 - (mem.length : Int) < im.fr.getD n 0 then none
  else some (mem ++ List.replicate (im.fr.getD n 0).toNat 0, cls ++ [⟨z8, got, z6, (im.st.getD n 0).toNat, mem.length, an⟩])
def val1 (mem : List Int) (c : Cl) (v x y : Int) : Int :=
  if fo v = 20 then Burin.wr (ft v) (fi v) else if fo v = 21 then x else if fo v = 22 then Burin.un1 1 (ft v) x else if fo v = 23 then Burin.un1 2 (ft v) x else if fo v = 24 then Burin.un1 3 (ft v) x
  else if fo v = 25 then Burin.wr (ft v) x else if fo v = 26 then (c.ba : Int) + fi v else if fo v = 27 then fi v
  else if fo v = 28 then (if y < 0 ∨ fi v ≤ y then 0 else wrap64 (x + y)) else if fo v = 29 then wrap64 (x + fi v)
  else if fo v = 30 then (if inM mem x then getM mem x else 0) else if fo v = 38 then (if inM mem ((c.ba : Int) + fi v) then getM mem ((c.ba : Int) + fi v) else 0)
  else if fo v = 40 then (if 6 ≤ fi v then 0 else c.gt.getD (fi v).toNat 0) else Burin.do1 (fo v) (ft v) x y
def val2 (mem : List Int) (c : Cl) (v x y : Int) : Int :=
  if fo v = 20 then 0 else if fo v = 21 then 0 else if fo v = 22 then Burin.un2 1 (ft v) x else if fo v = 23 then Burin.un2 2 (ft v) x else if fo v = 24 then Burin.un2 3 (ft v) x
  else if fo v = 25 then 0 else if fo v = 26 then 0 else if fo v = 27 then 0
  else if fo v = 28 then (if y < 0 ∨ fi v ≤ y then 4 else 0) else if fo v = 29 then 0
  else if fo v = 30 then (if inM mem x then 0 else 5) else if fo v = 38 then (if inM mem ((c.ba : Int) + fi v) then 0 else 5)
  else if fo v = 40 then (if 6 ≤ fi v then 5 else 0) else Burin.do2 (fo v) (ft v) x y
def storeP (mem : List Int) (cls : List Cl) (tr : List Int) (a x : Int) : Rs := if inM mem a then .go (mem.set a.toNat x) cls tr else .stop 5
/-- The word's work: the call k does v, whose place has gone on (c1). -/
def doP (im : PIm) (mem : List Int) (cls : List Cl) (tr : List Int) (c : Cl) (v : Int) : Rs :=
  if fo v = 33 then (match beginP im (fi v).toNat c.rd (fd v).toNat mem cls with | none => .stop 5 | some (m, cl) => .go m cl tr)
  else if fo v = 37 then
    (if cls.length ≤ 1 then .halt (c.rg.getD (fa v).toNat 0)
     else match cls[cls.length - 2]? with
       | none => .halt (c.rg.getD (fa v).toNat 0)
       | some p => .go (mem.take c.ba) ((cls.take (cls.length - 1)).set (cls.length - 2) { p with rg := p.rg.set c.an (c.rg.getD (fa v).toNat 0) }) tr)
  else if fo v = 35 then .go mem (cls.set (cls.length - 1) { c with pl := (fi v).toNat }) tr
  else if fo v = 36 then (if c.rg.getD (fa v).toNat 0 = 0 then .go mem (cls.set (cls.length - 1) { c with pl := (fi v).toNat }) tr else .go mem cls tr)
  else if fo v = 34 then .go mem cls (tr ++ [c.rg.getD (fa v).toNat 0])
  else if fo v = 32 then (if 6 ≤ fi v then .stop 5 else .go mem (cls.set (cls.length - 1) { c with rd := c.rd.set (fi v).toNat (c.rg.getD (fa v).toNat 0) }) tr)
  else if fo v = 31 then storeP mem cls tr (c.rg.getD (fa v).toNat 0) (c.rg.getD (fb v).toNat 0)
  else if fo v = 39 then storeP mem cls tr ((c.ba : Int) + fi v) (c.rg.getD (fa v).toNat 0)
  else if val2 mem c v (c.rg.getD (fa v).toNat 0) (c.rg.getD (fb v).toNat 0) = 0 then .go mem (cls.set (cls.length - 1) { c with rg := c.rg.set (fd v).toNat (val1 mem c v (c.rg.getD (fa v).toNat 0) (c.rg.getD (fb v).toNat 0)) }) tr
  else .stop (val2 mem c v (c.rg.getD (fa v).toNat 0) (c.rg.getD (fb v).toNat 0))
def onP (cls : List Cl) (c : Cl) : List Cl := cls.set (cls.length - 1) { c with pl := c.pl + 1 }
def stepP (im : PIm) (mem : List Int) (cls : List Cl) (tr : List Int) : Rs :=
  match cls[cls.length - 1]? with
  | none => .stop 5
  | some c => match im.ws[c.pl]? with
    | none => .stop 5
    | some v => if goodW v then doP im mem (onP cls c) tr { c with pl := c.pl + 1 } v else .stop 5

/-- The outcome: halted, exit, trap, spent, steps, trace. -/
structure Oc where
  h : Bool
  x : Int
  t : Int
  sp : Bool
  n : Nat
  tr : List Int
def loopP (im : PIm) : Nat → Nat → List Int → List Cl → List Int → Oc
  | 0, n, _, _, tr => ⟨false, 0, 0, true, n, tr⟩
  | k + 1, n, mem, cls, tr => match stepP im mem cls tr with
    | .go m c t => loopP im k (n + 1) m c t
    | .stop t => ⟨false, 0, t, false, n + 1, tr⟩
    | .halt x => ⟨true, x, 0, false, n + 1, tr⟩
def runP (im : PIm) (fuel : Nat) : Oc :=
  match beginP im (im.st.length - 1) z6 0 im.da [] with
  | none => ⟨false, 0, 5, false, 0, []⟩
  | some (m, c) => loopP im fuel 0 m c []

end Go.Proofs.Ytnlgkiejppgfjaa
