/- Functions without a body, on what is known. -/
import Derived.Test.YtgoiaciamgailaaGreatDoorRRRREvB
namespace Go.Ev
noncomputable section
open Go.Extern

section
variable (E : Env)
/-- One that only looks at its arguments. -/
def gPure (e : Array Value → Sem Value) (args : List SV) (h : Heap) : Outs :=
  match toVals args with
  | some vs => match pureRun E.P (e vs.toArray) with
    | some v => some [(.val v, h)]
    | none => none
  | none => none
def typeV (t : TypeId) (h : Heap) : Outs :=
  match pureRun E.P (ReflectliteType.toType t) with
  | some v => some [(.val v, h)]
  | none => none
def gTypeOf (args : List SV) (h : Heap) : Outs :=
  match args with
  | [.val .nilIface] => some [(.val .nilIface, h)]
  | [.val (.iface t _)] => typeV E t h
  | [.iface t _] => typeV E t h
  | _ => none
def valueV (t : TypeId) (p : SV) (k : Nat) : SV := .agg [.val (typeHandle E.P t), p, .val (.int .u64 (Int.ofNat k))]
def valueOf (t : TypeId) (v : SV) (h : Heap) : Outs :=
  match pureRun E.P (Rtype.kind t), newRowS E h t v.cells with
  | some k, some (p, h') => some [(valueV E t p (k + 128 + 0), h')]
  | _, _ => none
def gValueOf (args : List SV) (h : Heap) : Outs :=
  match args with
  | [.val (.iface t v)] => valueOf E t (.val v) h
  | [.iface t v] => valueOf E t v h
  | _ => none
/-- A reflectlite.Value's type, place and flags. -/
def partsV (x : SV) : Option (TypeId × SV × Nat) :=
  match x with
  | .agg [.val hd, p, .val (.int .u64 f)] => match handleType E.P hd, p, f with
    | some t, .ptr b off, .ofNat f => bif Nat.beq f 0 then none else some (t, .ptr b off, f)
    | _, _, _ => none
  | _ => none
def noPackV (t : TypeId) : Bool := not (E.P.packed t)
def gType (args : List SV) (h : Heap) : Outs :=
  match args with
  | [x] => match partsV E x with
    | some (t, _, _) => typeV E t h
    | none => none
  | _ => none
def isNilV : SV → Option Bool
  | .ptr .. => some false
  | .map _ => some false
  | .func .. => some false
  | .slice .. => some false
  | .iface .. => some false
  | .val (.pointer none) => some true
  | .val .nilIface => some true
  | .val .nilFunc => some true
  | .val (.map none) => some true
  | _ => none
def gIsNil (args : List SV) (h : Heap) : Outs :=
  match args with
  | [x] => match partsV E x with
    | some (t, p, f) => bif noPackV E t && [18, 19, 20, 21, 22, 23, 26].contains (f % 32) then
        match loadS E h t p with
        | some v => match isNilV v with
          | some b => some [(.val (.bool b), h)]
          | none => none
        | none => none
      else none
    | none => none
  | _ => none
def gElem (args : List SV) (h : Heap) : Outs :=
  match args with
  | [x] => match partsV E x with
    | some (t, p, f) => bif noPackV E t && Nat.beq (f % 32) 22 then
        match loadS E h t p, pureRun E.P (Rtype.elem? t) with
        | some (.ptr b off), some (some e) => match pureRun E.P (Rtype.kind e) with
          | some k => some [(valueV E e (.ptr b off) (k + 128 + 256), h)]
          | none => none
        | _, _ => none
      else none
    | none => none
  | _ => none
def setV (dst src : TypeId) (a v : SV) (h : Heap) : Outs :=
  match pureRun E.P (Rtype.directlyAssignable dst src) with
  | some true => ph (storeS E h dst a v)
  | some false => match pureRun E.P (Rtype.implements dst src), pureRun E.P (Rtype.kind src) with
    | some true, some k => bif Nat.beq k 20 then none else ph (storeS E h dst a (match v with | .val v => .val (.iface src v) | v => .iface src v))
    | _, _ => none
  | none => none
def gSet (args : List SV) (h : Heap) : Outs :=
  match args with
  | [x, y] => match partsV E x, partsV E y with
    | some (dst, a, fl), some (src, b, _) => bif noPackV E dst && noPackV E src && Nat.beq (fl / 256 % 2) 1 then
        match loadS E h src b with
        | some v => setV E dst src a v h
        | none => none
      else none
    | _, _ => none
  | _ => none
end
/-- By name. -/
def extOf (E : Env) (name : String) : Option (List SV → Heap → Outs) :=
  if name == "internal/bytealg.IndexByteString" then some (gPure E BytealgIndexByte.indexByte)
  else if name == "internal/bytealg.CountString" then some (gPure E BytealgCount.count)
  else if name == "internal/reflectlite.TypeOf" then some (gTypeOf E)
  else if name == "internal/reflectlite.ValueOf" then some (gValueOf E)
  else if name == "(internal/reflectlite.Value).Type" then some (gType E)
  else if name == "(internal/reflectlite.Value).IsNil" then some (gIsNil E)
  else if name == "(internal/reflectlite.Value).Elem" then some (gElem E)
  else if name == "(internal/reflectlite.Value).Set" then some (gSet E)
  else if name == "(*internal/abi.Type).Kind" then some (gPure E (ReflectliteType.abiMethod fun t => do pure (.int .u8 (Int.ofNat (← Rtype.kind t)))))
  else if name == "(internal/reflectlite.rtype).Elem" then some (gPure E (ReflectliteType.method ReflectliteType.elem))
  else if name == "(internal/reflectlite.rtype).Implements" then some (gPure E (ReflectliteType.relation "Implements" ReflectliteType.implements_))
  else if name == "(internal/reflectlite.rtype).AssignableTo" then some (gPure E (ReflectliteType.relation "AssignableTo" ReflectliteType.assignableTo))
  else none
end
end Go.Ev
