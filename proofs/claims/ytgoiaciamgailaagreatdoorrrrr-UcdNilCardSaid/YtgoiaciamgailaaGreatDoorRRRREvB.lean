/- A run of the program on what is known: code, calls, regions. -/
import Derived.Test.YtgoiaciamgailaaGreatDoorRRRREvA
namespace Go.Ev
noncomputable section

structure Out where
  j : Jump
  st : St
  h : Heap

def andThen {α β : Type} (f : α → Option (List β)) (l : List α) : Option (List β) :=
  List.rec (some []) (fun x xs ih => List.casesOn xs (f x) (fun _ _ => Option.casesOn (f x) none (fun a => Option.casesOn ih none (fun b => some (a ++ b))))) l
def bindM {α β : Type} (m : Option (List α)) (f : α → Option (List β)) : Option (List β) :=
  match m with
  | none => none
  | some l => andThen f l

structure Fns where
  call : FuncId → List SV → Heap → Option (List (SV × Heap))
  code : Code → St → Heap → Option (List Out)

def putSt (st : St) (d : Option Tmp) (v : SV) : St :=
  match d with
  | some d => cond (Nat.blt d st.cut) { st with vars := setNth st.vars d v } (cond (Nat.blt d st.n) { st with loc := (d, v) :: st.loc } st)
  | none => st
def isB (want : Bool) : SV → Option Bool
  | .val (.bool b) => some (b == want)
  | .val (.tuple _) => some false
  | _ => none
def wantedS (ops : List Oper) (st : St) (o : Oper) : Option Bool :=
  match o.guard with
  | none => some true
  | some (j, want) => match nth ops j with
    | none => some false
    | some g => match g.dst with
      | none => some false
      | some d => isB want (getT st d)

section
variable (E : Env) (fs : Fns)

def fillTo (n : Nat) : List SV :=
  match n with
  | 0 => []
  | n + 1 => .val (.tuple #[]) :: fillTo n
def newVars (cut : Nat) : List SV → List SV
  | [] => fillTo cut
  | a :: as => match cut with
    | 0 => []
    | c + 1 => a :: newVars c as
def newSt (cut : Nat) (args : List SV) (n : Nat) : St := ⟨[], newVars cut args, cut, n, [], none⟩

def jumpCode : Jump → Option Code
  | .normal => none
  | .exit id => some (.exit id)
  | .goto l => some (.goto l)
  | .ret => some .ret
def codeJump : Code → Option Jump
  | .exit id => some (.exit id)
  | .goto l => some (.goto l)
  | .ret => some .ret
  | _ => none

def setParams : List Tmp → List SV → St → Option St
  | [], [], t => some t
  | p :: ps, a :: as, t => setParams ps as (putSt t (some p) a)
  | _, _, _ => none
def isReady : LoopState → Bool
  | .ready => true
  | _ => false
/-- A round of a range over a function. -/
def roundS (l : Nat) (args : List SV) (h : Heap) : Option (List (SV × Heap)) :=
  match h.t.get l with
  | some (.loop r) => match setParams r.params.toList args ⟨[], r.vars, r.vars.length, r.n, [], some l⟩ with
    | none => none
    | some st => bindM (fs.code r.assign st h) fun o => match o.j, o.h.t.get l with
      | .normal, some (.loop r2) =>
        bif isReady r2.state then
          bindM (fs.code r.body o.st (o.h.set l (.loop { r2 with state := .busy }))) fun o2 => match o2.st.ds, o2.h.t.get l with
            | [], some (.loop r3) => match jumpCode o2.j with
              | none => some [(.val (.bool true), o2.h.set l (.loop { r3 with state := .ready, pending := none }))]
              | some c => some [(.val (.bool false), o2.h.set l (.loop { r3 with state := .done, pending := some c }))]
            | _, _ => none
        else none
      | _, _ => none
  | _ => none

def recvOf (t : TypeId) (v : SV) (h : Heap) (name : String) : Option (FuncId × SV) :=
  match info E t with
  | none => none
  | some i => match i.methods.toList.find? (·.name == name) with
    | none => none
    | some m => bif m.path.isEmpty then
        match m.func, und E t with
        | some (f, true), some (.pointer _) => some (f, v)
        | some (f, false), some (.pointer e) => (loadS E h e v).map fun x => (f, x)
        | some (f, false), some _ => some (f, v)
        | _, _ => none
      else none
def methodS (recv : SV) (name : String) (args : List SV) (h : Heap) : Option (List (SV × Heap)) :=
  match recv with
  | .iface t v => match recvOf E t v h name with
    | some (f, r) => fs.call f (r :: args) h
    | none => none
  | .val (.iface t v) => match recvOf E t (.val v) h name with
    | some (f, r) => fs.call f (r :: args) h
    | none => match pureRun E.P (method (E.P.types.size + Made.depth) t v name) with
      | some (f, r) => fs.call f (.val r :: args) h
      | none => none
  | _ => none
def callFn (fn : Fn) (cap args : List SV) (h : Heap) : Option (List (SV × Heap)) :=
  match fn with
  | .func f => fs.call f (args ++ cap) h
  | .yield l => roundS fs l args h
  | .method name => match args with
    | r :: as => methodS E fs r name as h
    | [] => none
  | _ => none
def callOp (c : Call) (st : St) (h : Heap) : Option (List (SV × Heap)) :=
  let args := c.args.toList.map (opd st)
  match c.callee with
  | .builtin b => match builtinS E h b c.argTypes.toList args with
    | some r => some [r]
    | none => none
  | .value f => match opd st f with
    | .func fn first cap => callFn E fs fn cap (first ++ args) h
    | .val (.func (.func f) first cap) => fs.call f ((vals first ++ args) ++ vals cap) h
    | _ => none
  | .invoke r name => methodS E fs (opd st r) name args h
def deferOf (c : Call) (st : St) : Option SDef :=
  let args := c.args.toList.map (opd st)
  match c.callee with
  | .value f => match opd st f with
    | .func fn first cap => some (.call fn cap (first ++ args))
    | _ => none
  | _ => none
/-- What an operation that is not deferred answers. -/
def evOp (ops : List Oper) (o : Oper) (st : St) (h : Heap) : Option (List (SV × Heap)) :=
  match wantedS ops st o with
  | some true => match o.op with
    | .call c => callOp E fs c st h
    | .defer _ => none
    | op => small E h st op
  | some false => some [(.val (.tuple #[]), h)]
  | none => none
def isDefer : Op → Option Call
  | .defer c => some c
  | _ => none
def runOp (ops : List Oper) (o : Oper) (st : St) (h : Heap) : Option (List (St × Heap)) :=
  bindM (evOp E fs ops o st h) fun r => some [(putSt st o.dst r.1, r.2)]
def runOps (ops : List Oper) (l : List Oper) : St → Heap → Option (List (St × Heap)) :=
  List.rec (fun st h => some [(st, h)]) (fun o _ ih st h => bindM (runOp E fs ops o st h) fun r => ih r.1 r.2) l

def bindsE (e : Edge) : Bool := match e.ground with | .textOnly _ => false | .gcOnly _ => false | _ => true
def maskOf (acc : Tr Nat) : List Edge → Nat → Nat
  | [], s => s
  | e :: es, s => bif bindsE e then maskOf acc es (Nat.lor s (Nat.lor (2 ^ e.on) ((acc.get e.on).getD 0))) else maskOf acc es s
def masks : List Oper → Nat → Tr Nat → Tr Nat
  | [], _, acc => acc
  | o :: os, i, acc => masks os (i + 1) (acc.put i (some (maskOf acc o.after.toList 0)))
def has (m i : Nat) : Bool := ((m >>> i) % 2).beq 1
/-- An operation that changes nothing that is there, and makes nothing. -/
def quietOp (o : Oper) : Bool :=
  match o.op with
  | .move _ => true
  | .assign _ => true
  | .pick .. => true
  | .build .. => true
  | .load .. => true
  | .nilCheck _ => true
  | .binOp .. => true
  | .unOp .. => true
  | .makeInterface .. => true
  | .slice .. => true
  | .fieldAddr .. => true
  | .field .. => true
  | .indexAddr .. => true
  | .index .. => true
  | .lookup .. => true
  | .typeAssert .. => true
  | .extract .. => true
  | .sliceToArrayPointer .. => true
  | .entry _ => true
  | .convert _ dst _ => isIntT E dst
  | .call c => match c.callee with
    | .builtin b => match b with
      | .len => true
      | .cap => true
      | .min => true
      | .max => true
      | _ => false
    | _ => false
  | _ => false
def scal : Value → Value → Bool
  | .bool x, .bool y => x == y
  | .int k x, .int j y => k == j && decide (x = y)
  | .string x, .string y => x.data.toList == y.data.toList
  | .pointer none, .pointer none => true
  | .slice none x y, .slice none x' y' => x.beq x' && y.beq y'
  | .map none, .map none => true
  | .nilFunc, .nilFunc => true
  | .nilIface, .nilIface => true
  | .tuple a, .tuple b => a.isEmpty && b.isEmpty
  | .pointer (some a), .pointer (some b) => a == b
  | _, _ => false
def beqVs : List Value → List Value → Bool
  | [], [] => true
  | x :: xs, y :: ys => scal x y && beqVs xs ys
  | _, _ => false
mutual
def beqS : SV → SV → Bool
  | .val a, .val b => match a, b with
    | .bool x, .bool y => x == y
    | .int k x, .int j y => k == j && decide (x = y)
    | .string x, .string y => x.data.toList == y.data.toList
    | .pointer none, .pointer none => true
    | .slice none x y, .slice none x' y' => x.beq x' && y.beq y'
    | .map none, .map none => true
    | .nilFunc, .nilFunc => true
    | .nilIface, .nilIface => true
    | .tuple a, .tuple b => a.isEmpty && b.isEmpty
    | .pointer (some a), .pointer (some b) => a == b
    | .agg a, .agg b => beqVs a.toList b.toList
    | .iface t a, .iface u b => t.beq u && scal a b
    | _, _ => false
  | .ptr a b, .ptr a' b' => a.beq a' && b.beq b'
  | .slice a b n c, .slice a' b' n' c' => a.beq a' && b.beq b' && n.beq n' && c == c'
  | .map a, .map b => a.beq b
  | .func (.func f) x y, .func (.func g) x' y' => f.beq g && beqSs x x' && beqSs y y'
  | .func (.yield f) x y, .func (.yield g) x' y' => f.beq g && beqSs x x' && beqSs y y'
  | .iface t x, .iface t' x' => t.beq t' && beqS x x'
  | .agg l, .agg l' => beqSs l l'
  | .tup l, .tup l' => beqSs l l'
  | .unk, .unk => true
  | .zstr a, .zstr b => a.beq b
  | .arr t l n, .arr t' l' n' => n.beq n' && beqSs l l' && beqT t t'
  | _, _ => false
def beqT : Tr SV → Tr SV → Bool
  | .e, .e => true
  | .n l v r, .n l' v' r' => beqO v v' && beqT l l' && beqT r r'
  | _, _ => false
def beqO : Option SV → Option SV → Bool
  | none, none => true
  | some a, some b => beqS a b
  | _, _ => false
def beqSs : List SV → List SV → Bool
  | [], [] => true
  | x :: xs, y :: ys => beqS x y && beqSs xs ys
  | _, _ => false
end

/-- What an operation looks at. -/
def tmpsOf : List Operand → List Tmp
  | [] => []
  | .tmp t :: l => t :: tmpsOf l
  | _ :: l => tmpsOf l
def looks (ops : List Oper) (o : Oper) : List Tmp :=
  match o.guard with
  | none => tmpsOf o.op.operands.toList
  | some (j, _) => match nth ops j with
    | some g => match g.dst with
      | some d => d :: tmpsOf o.op.operands.toList
      | none => tmpsOf o.op.operands.toList
    | none => tmpsOf o.op.operands.toList
def restrict (ops : List Oper) (o : Oper) (st : St) : St := ⟨(looks ops o).map fun t => (t, getT st t), [], 0, st.n, [], none⟩
def quietRun (ops : List Oper) (o : Oper) (st : St) (h : Heap) : Option SV :=
  match wantedS ops st o with
  | some true => match (match o.op with
      | .call c => (match c.callee with
        | .builtin b => (match builtinS E h b c.argTypes.toList (c.args.toList.map (opd st)) with | some r => some [r] | none => none)
        | _ => none)
      | op => small E h st op) with
    | some [(v, _)] => some v
    | _ => none
  | some false => some (.val (.tuple #[]))
  | none => none
structure Pend where
  i : Nat
  o : Oper
  st : St
  v : SV
structure Rg where
  done : Nat
  st : St
  h : Heap
  pend : List Pend
def sub (m d : Nat) : Bool := Nat.beq (Nat.land m d) m
/-- All the quiet ones that may be done. -/
def asap (ops : List Oper) (ms : Tr Nat) (l : List Oper) : Nat → Rg → Option Rg :=
  List.rec (fun _ r => some r) (fun o _ ih i r =>
    cond (quietOp E o && not (has r.done i) && sub ((ms.get i).getD 0) r.done)
      (match quietRun E ops o (restrict ops o r.st) r.h with
        | some v => ih (Nat.succ i) ⟨Nat.lor r.done (2 ^ i), putSt r.st o.dst v, r.h, ⟨i, o, restrict ops o r.st, v⟩ :: r.pend⟩
        | none => none)
      (ih (Nat.succ i) r)) l
def cands (ms : Tr Nat) (d : Nat) : List Oper → Nat → List (Nat × Oper)
  | [], _ => []
  | o :: os, i => bif not (quietOp E o) && not (has d i) && sub ((ms.get i).getD 0) d then (i, o) :: cands ms d os (i + 1) else cands ms d os (i + 1)
def recheck (ops : List Oper) (h : Heap) : List Pend → Bool
  | [] => true
  | p :: ps => match quietRun E ops p.o p.st h with
    | some v => bif beqS v p.v then recheck ops h ps else false
    | none => false
def keepP (m : Nat) : List Pend → List Pend
  | [] => []
  | p :: ps => bif has m p.i then keepP m ps else p :: keepP m ps
def imps (ops : List Oper) (ms : Tr Nat) : Nat → Rg → Option (List Rg)
  | 0, _ => none
  | f + 1, r => match cands E ms r.done ops 0 with
    | [] => bif Nat.beq r.done (2 ^ ops.length - 1) then some [r] else none
    | cs => andThen (fun c => bindM (evOp E fs ops c.2 (restrict ops c.2 r.st) r.h) fun x =>
        bif recheck E ops x.2 (keepP ((ms.get c.1).getD 0) r.pend) then
          match asap E ops ms ops 0 ⟨Nat.lor r.done (2 ^ c.1), putSt r.st c.2.dst x.1, x.2, keepP ((ms.get c.1).getD 0) r.pend⟩ with
          | some r => imps ops ms f r
          | none => none
        else none) cs
/-- Is each place written once at most, and are those that write and look in an order ? -/
def writers : List Oper → Nat → List (Tmp × Nat)
  | [], _ => []
  | o :: os, i => match o.dst with
    | some d => (d, i) :: writers os (i + 1)
    | none => writers os (i + 1)
def writerOf (t : Tmp) : List (Tmp × Nat) → Option Nat
  | [] => none
  | (d, i) :: l => bif Nat.beq d t then some i else writerOf t l
def onceOk : List (Tmp × Nat) → Bool
  | [] => true
  | (d, _) :: l => match writerOf d l with
    | none => onceOk l
    | some _ => false
def looksOk (ms : Tr Nat) (ws : List (Tmp × Nat)) (i : Nat) : List Tmp → Bool
  | [] => true
  | t :: ts => match writerOf t ws with
    | none => looksOk ms ws i ts
    | some j => bif has ((ms.get i).getD 0) j || has ((ms.get j).getD 0) i then looksOk ms ws i ts else false
def allLooks (ops : List Oper) (ms : Tr Nat) (ws : List (Tmp × Nat)) : List Oper → Nat → Bool
  | [], _ => true
  | o :: os, i => bif looksOk ms ws i (looks ops o) then allLooks ops ms ws os (i + 1) else false
def lowEdges (i : Nat) : List Edge → Bool
  | [] => true
  | e :: es => bif not (bindsE e) || Nat.blt e.on i then lowEdges i es else false
def msOk (ms : Tr Nat) : List Oper → Nat → Bool
  | [], _ => true
  | o :: os, i => bif lowEdges i o.after.toList && Nat.blt ((ms.get i).getD 0) (2 ^ i) && sub ((ms.get i).getD 0) (maskOf ms o.after.toList 0) then msOk ms os (i + 1) else false
def dstsOk (n : Nat) : List (Tmp × Nat) → Bool
  | [] => true
  | (d, _) :: l => bif Nat.blt d n then dstsOk n l else false
def ssaOk (ops : List Oper) (n : Nat) : Bool :=
  onceOk (writers ops 0) && allLooks ops (masks ops 0 .e) (writers ops 0) ops 0 && msOk (masks ops 0 .e) ops 0 && dstsOk n (writers ops 0)
def drawn (ops : List Oper) (st : St) (h : Heap) : Option (List (St × Heap)) :=
  bif ssaOk ops st.n then
    match asap E ops (masks ops 0 .e) ops 0 ⟨0, st, h, []⟩ with
    | some r => bindM (imps E fs ops (masks ops 0 .e) (Nat.succ ops.length) r) fun r => some [(r.st, r.h)]
    | none => none
  else none

def iter (f : St → Heap → Option (List Out)) (n : Nat) : St → Heap → Option (List Out) :=
  Nat.rec (fun _ _ => none) (fun _ ih st h => bindM (f st h) fun o => match o.j with
    | .normal => ih o.st o.h
    | _ => some [o]) n
def scopeF (b : Code) : Nat → Out → Option (List Out)
  | 0, _ => none
  | n + 1, o => match o.j with
    | .goto l => match findLabel b l with
      | some c => bindM (fs.code c o.st o.h) (scopeF b n)
      | none => some [o]
    | _ => some [o]

def enterS (st : St) (h : Heap) : Option (Nat × List SDef × Heap) :=
  match st.round with
  | some l => match h.t.get l with
    | some (.loop r) => some (r.defers, st.ds, h)
    | _ => none
  | none => some (h.next, .collected h.next :: st.ds, h.new (.defs false))

def seqK (k : St → Heap → Option (List Out)) (o : Out) : Option (List Out) :=
  match o.j with
  | .normal => k o.st o.h
  | _ => some [o]
def blockK (id : Nat) (o : Out) : Option (List Out) :=
  match o.j with
  | .exit k => bif k.beq id then some [⟨.normal, o.st, o.h⟩] else some [o]
  | _ => some [o]
def condK (v : SV) (x y : Option (List Out)) : Option (List Out) :=
  match v with
  | .val (.bool t) => bif t then x else y
  | _ => none
def regionS (ops : List Oper) (d : Bool) (st : St) (h : Heap) : Option (List Out) :=
  bindM (bif d then drawn E fs ops { st with loc := [] } h else runOps E fs ops ops { st with loc := [] } h) fun r => some [⟨.normal, r.1, r.2⟩]
def endLoopS (l : Nat) (st : St) (r : SV × Heap) : Option (List Out) :=
  match r.2.t.get l with
  | some (.loop x) => match x.state with
    | .busy => none
    | _ => match x.pending with
      | none => some [⟨.normal, st, r.2.set l (.loop { x with state := .exhausted })⟩]
      | some c => match codeJump c with
        | some j => some [⟨j, st, r.2.set l (.loop { x with state := .exhausted })⟩]
        | none => none
  | _ => none
def hasBody (g : FuncId) : Bool :=
  match E.ft.get g with
  | some fn => fn.body.isSome
  | none => false
def rangeS (f : Operand) (params : Array Tmp) (assign body : Code) (st : St) (h : Heap) : Option (List Out) :=
  match enterS st h with
  | none => none
  | some (d, ds, h) => match opd st f with
    | .func (.func g) first cap => bif hasBody E g then
        bindM (fs.call g (first ++ [.func (.yield h.next) [] []] ++ cap) (h.new (.loop ⟨.ready, none, 0, st.vars, st.n, params, assign, body, d⟩)))
        (endLoopS h.next { st with ds := ds })
      else none
    | _ => none
def evCode (lf : Nat) (c : Code) : St → Heap → Option (List Out) :=
  Code.rec (motive := fun _ => St → Heap → Option (List Out))
    (fun st h => some [⟨.normal, st, h⟩])
    (fun _ ops d st h => regionS E fs ops.toList d st h)
    (fun _ _ iha ihb st h => bindM (iha st h) (seqK ihb))
    (fun c _ _ iha ihb st h => condK (opd st c) (iha st h) (ihb st h))
    (fun id _ ih st h => bindM (ih st h) (blockK id))
    (fun _ ih st h => iter ih lf st h)
    (fun f params assign body _ _ st h => rangeS E fs f params assign body st h)
    (fun id st h => some [⟨.exit id, st, h⟩])
    (fun b ih st h => bindM (ih st h) (scopeF fs b lf))
    (fun _ st h => some [⟨.normal, st, h⟩])
    (fun l st h => some [⟨.goto l, st, h⟩])
    (fun st h => some [⟨.ret, st, h⟩])
    (fun _ _ _ => none) c

def leaveS : List SDef → Heap → Option Heap
  | [], h => some h
  | .collected b :: ds, h => match h.t.get b with
    | some (.defs false) => leaveS ds (h.set b (.defs true))
    | _ => none
  | .call .. :: _, _ => none
def resultS (st : St) (h : Heap) : List ResultVar → Option (List SV)
  | [] => some []
  | r :: rs => match (match r with | .tmp t => some (opd st (.tmp t)) | .cell a t => loadS E h t (opd st (.tmp a))) with
    | none => none
    | some v => match resultS st h rs with
      | none => none
      | some l => some (v :: l)
def evCall (ext : Tr (List SV → Heap → Option (List (SV × Heap)))) (lf : Nat) (f : FuncId) (args : List SV) (h : Heap) : Option (List (SV × Heap)) :=
  match ext.get f with
  | some e => e args h
  | none => match E.ft.get f with
  | none => none
  | some fn => match fn.body with
    | none => none
    | some c => bindM (bif Nat.ble args.length fn.ntmps && Nat.ble ((E.cuts.get f).getD 0) fn.ntmps then evCode E fs lf c (newSt ((E.cuts.get f).getD 0) args fn.ntmps) h else none) fun o => match o.j with
      | .normal | .ret => match leaveS o.st.ds o.h with
        | some h => match resultS E o.st h fn.results.toList with
          | some [v] => some [(v, h)]
          | some l => some [(.tup l, h)]
          | none => none
        | none => none
      | _ => none
end

def ev (E : Env) (ext : Tr (List SV → Heap → Option (List (SV × Heap)))) (lf : Nat) : Nat → Fns
  | 0 => ⟨fun _ _ _ => none, fun _ _ _ => none⟩
  | n + 1 => ⟨fun f a h => evCall E (ev E ext lf n) ext lf f a h, fun c st h => evCode E (ev E ext lf n) lf c st h⟩
def tabOf {α : Type} (a : Array α) : Tr α := Tr.e.puts 0 a.toList
def envOf (P : Program) (cuts : List Nat) (globs : Tr Value) : Env := ⟨P, tabOf P.types, tabOf P.funcs, Tr.e.puts 0 cuts, globs⟩
end
end Go.Ev
