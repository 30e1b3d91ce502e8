/- A run of the program on what is known: symbolic values, tries, operations. -/
import GoSem.Step
namespace Go.Ev
noncomputable section

inductive Tr (α : Type) where
  | e
  | n (l : Tr α) (v : Option α) (r : Tr α)

namespace Tr
variable {α : Type}
def get (t : Tr α) : Nat → Option α :=
  Tr.rec (fun _ => none) (fun _ v _ gl gr i => cond (Nat.beq i 0) v (cond (Nat.beq (Nat.mod i 2) 1) (gl (Nat.div i 2)) (gr (Nat.pred (Nat.div i 2))))) t
def putF (f : Nat) : Tr α → Nat → Option α → Tr α :=
  Nat.rec (fun t _ _ => t) (fun _ p t i x =>
    Tr.casesOn t (cond (Nat.beq i 0) (.n .e x .e) (cond (Nat.beq (Nat.mod i 2) 1) (.n (p .e (Nat.div i 2) x) none .e) (.n .e none (p .e (Nat.pred (Nat.div i 2)) x))))
      (fun l v r => cond (Nat.beq i 0) (.n l x r) (cond (Nat.beq (Nat.mod i 2) 1) (.n (p l (Nat.div i 2) x) v r) (.n l v (p r (Nat.pred (Nat.div i 2)) x))))) f
def put (t : Tr α) (i : Nat) (x : Option α) : Tr α := putF (Nat.succ i) t i x
def puts (t : Tr α) : Nat → List α → Tr α
  | _, [] => t
  | i, x :: xs => puts (t.put i (some x)) (Nat.succ i) xs
end Tr

inductive SV where
  | val (v : Value)
  | ptr (b off : Nat)
  | slice (b off len : Nat) (cap : Option Nat)
  | map (b : Nat)
  | func (fn : Fn) (first captured : List SV)
  | iface (t : TypeId) (x : SV)
  | unk
  | zstr (n : Nat)
  | arr (cs : Tr SV) (dfl : List SV) (n : Nat)
  | agg (l : List SV)
  | tup (l : List SV)

structure SEnt where
  key : Value
  val : SV
  born : Nat

structure SLoop where
  state : LoopState
  pending : Option Code
  fn : FuncId
  vars : List SV
  n : Nat
  params : Array Tmp
  assign : Code
  body : Code
  defers : Nat

inductive Blk where
  | row (cs : Tr SV) (dfl : List SV) (size : Nat) (elem : TypeId)
  | map (es : List SEnt) (clock : Nat)
  | siter (s : ByteArray) (pos : Nat)
  | miter (m : Option Nat) (since : Nat) (seen : List Nat) (stepped : Nat)
  | loop (l : SLoop)
  | defs (taken : Bool)

structure Heap where
  t : Tr Blk
  next : Nat

inductive SDef where
  | call (fn : Fn) (captured args : List SV)
  | collected (b : Nat)

inductive Jump where
  | normal
  | exit (id : Nat)
  | goto (l : Nat)
  | ret

structure St where
  loc : List (Nat × SV)
  vars : List SV
  cut : Nat
  n : Nat
  ds : List SDef
  round : Option Nat
structure Env where
  P : Program
  tt : Tr TypeInfo
  ft : Tr Func
  cuts : Tr Nat
  globs : Tr Value

def Heap.new (h : Heap) (b : Blk) : Heap := ⟨h.t.put h.next (some b), h.next + 1⟩
def Heap.set (h : Heap) (i : Nat) (b : Blk) : Heap := ⟨h.t.put i (some b), h.next⟩
def Heap.kill (h : Heap) (i : Nat) : Heap := ⟨h.t.put i none, h.next⟩

def nth {α : Type} (l : List α) : Nat → Option α :=
  List.rec (fun _ => none) (fun x _ ih i => cond (Nat.beq i 0) (some x) (ih (Nat.pred i))) l
def look (l : List (Nat × SV)) (t : Nat) : Option SV :=
  List.rec none (fun x _ ih => Prod.casesOn x fun i v => cond (Nat.beq i t) (some v) ih) l
def setNth (l : List SV) : Nat → SV → List SV :=
  List.rec (fun _ _ => []) (fun x xs ih i v => cond (Nat.beq i 0) (v :: xs) (x :: ih (Nat.pred i) v)) l
def dropL {α : Type} (l : List α) : Nat → List α :=
  List.rec (fun _ => []) (fun x xs ih i => cond (Nat.beq i 0) (x :: xs) (ih (Nat.pred i))) l
def takeL {α : Type} (l : List α) : Nat → List α :=
  List.rec (fun _ => []) (fun x _ ih i => cond (Nat.beq i 0) [] (x :: ih (Nat.pred i))) l
def rowGet (cs : Tr SV) (dfl : List SV) (i : Nat) : Option SV :=
  match cs.get i with
  | some v => some v
  | none => match dfl with
    | [] => none
    | [x] => some x
    | l => nth l (i % l.length)
def rowGets (cs : Tr SV) (dfl : List SV) : Nat → Nat → Option (List SV)
  | _, 0 => some []
  | i, n + 1 => match rowGet cs dfl i with
    | none => none
    | some v => match rowGets cs dfl (i + 1) n with
      | none => none
      | some l => some (v :: l)

def pureRun {α : Type} (P : Program) : Sem α → Option α
  | .pure a => some a
  | .program k => pureRun P (k P)
  | .mark _ k => pureRun P k
  | _ => none

def vals (cs : Array Value) : List SV := cs.toList.map .val
def SV.cells : SV → Option (List SV)
  | .agg l => some l
  | .arr cs dfl n => rowGets cs dfl 0 n
  | .val v => match v with
    | .agg cs => some (vals cs)
    | v => some [.val v]
  | .unk => none
  | .tup _ => none
  | x => some [x]
/-- Is it one cell? -/
def ok1 : SV → Bool
  | .val v => match v with
    | .agg _ => false
    | .tuple _ => false
    | _ => true
  | .agg _ => false
  | .tup _ => false
  | .arr .. => false
  | .unk => false
  | _ => true
def all1 : List SV → Bool
  | [] => true
  | x :: xs => bif ok1 x then all1 xs else false
def zcells (z : Value) : List SV :=
  match z with
  | .agg cs => vals cs
  | z => [.val z]
def orUnk : Option SV → SV
  | some v => v
  | none => .unk
def getT (st : St) (t : Tmp) : SV := cond (Nat.blt t st.cut) (orUnk (nth st.vars t)) (orUnk (look st.loc t))
def opd (st : St) : Operand → SV
  | .tmp t => getT st t
  | .const v => .val v
  | .global g => .val (.pointer (some ⟨g, 0, none⟩))
  | .func f => .func (.func f) [] []

mutual
def toVal : SV → Option Value
  | .val v => some v
  | .agg l => match toVals l with | some vs => some (.agg vs.toArray) | none => none
  | .tup l => match toVals l with | some vs => some (.tuple vs.toArray) | none => none
  | .iface t x => match toVal x with | some v => some (.iface t v) | none => none
  | _ => none
def toVals : List SV → Option (List Value)
  | [] => some []
  | x :: xs => match toVal x with
    | none => none
    | some v => match toVals xs with
      | none => none
      | some vs => some (v :: vs)
end

section
variable (E : Env)
def info (t : TypeId) : Option TypeInfo := E.tt.get t
def und (t : TypeId) : Option TypeDesc :=
  match E.tt.get t with
  | some i => match i.desc with
    | .named _ u => match E.tt.get u with
      | some j => some j.desc
      | none => none
    | d => some d
  | none => none
def isAggO (t : TypeId) : Option Bool :=
  match und E t with
  | some (.struct _) | some (.array ..) => some true
  | some _ => some false
  | none => none
def sizeO (t : TypeId) : Option Nat := (info E t).map (·.size)
def zeroO (t : TypeId) : Option Value := (info E t).bind (·.zero)

def loadRow (t : TypeId) (cs : Tr SV) (dfl : List SV) (size off : Nat) : Option SV :=
  match isAggO E t with
  | some true => match sizeO E t with
    | some n => bif Nat.beq off 0 && Nat.beq n size && Nat.ble 16 n then some (.arr cs dfl n) else bif Nat.ble (off + n) size then (rowGets cs dfl off n).map .agg else none
    | none => none
  | some false => bif Nat.blt off size then rowGet cs dfl off else none
  | none => none
/-- What lies in a global whose cell is known. -/
def loadG (t : TypeId) (v : Value) : Option SV :=
  match v with
  | .pointer (some a) => match a.spot, isAggO E t with
    | none, some false => bif Nat.beq a.off 0 then (match E.globs.get a.block with | some v => some (.val v) | none => none) else none
    | _, _ => none
  | _ => none
def loadS (h : Heap) (t : TypeId) : SV → Option SV
  | .ptr b off => match h.t.get b with
    | some (.row cs dfl size _) => loadRow E t cs dfl size off
    | _ => none
  | .val v => loadG E t v
  | _ => none
def storeList (h : Heap) (b off n : Nat) (cs : Tr SV) (dfl : List SV) (size : Nat) (e : TypeId) (l : Option (List SV)) : Option Heap :=
  match l with
  | none => none
  | some l => bif Nat.beq l.length n && Nat.ble (off + n) size && all1 l then some (h.set b (.row (cs.puts off l) dfl size e)) else none
def storeRow (h : Heap) (b off n : Nat) (cs : Tr SV) (dfl : List SV) (size : Nat) (e : TypeId) (v : SV) : Option Heap :=
  match v with
  | .arr cs' dfl' m => bif Nat.beq off 0 && Nat.beq n size && Nat.beq m n then some (h.set b (.row cs' dfl' size e)) else storeList h b off n cs dfl size e v.cells
  | v => storeList h b off n cs dfl size e v.cells
def storeS (h : Heap) (t : TypeId) (a v : SV) : Option Heap :=
  match a with
  | .ptr b off => match h.t.get b with
    | some (.row cs dfl size e) =>
      match sizeO E t with
      | some n => storeRow h b off n cs dfl size e v
      | none => none
    | _ => none
  | _ => none
def newRowS (h : Heap) (e : TypeId) (l : Option (List SV)) : Option (SV × Heap) :=
  match l, sizeO E e with
  | some l, some _ => bif all1 l then some (.ptr h.next 0, h.new (.row (Tr.e.puts 0 l) [] l.length e)) else none
  | _, _ => none

def setAt (l : List SV) : Nat → List SV → List SV
  | 0, xs => xs ++ l.drop xs.length
  | i + 1, xs => match l with
    | [] => []
    | a :: as => a :: setAt as i xs

def slot (t : TypeId) (i : Nat) : Option (Nat × Nat) :=
  match und E t with
  | some (.struct fs) => match nth fs.toList i with
    | some f => match sizeO E f.type with
      | some n => some (f.offset, n)
      | none => none
    | none => none
  | some (.array _ e) => match sizeO E e with
    | some n => some (i * n, n)
    | none => none
  | _ => none
def fillS (pl : Nat → Option (Nat × Nat)) (ev : Operand → SV) : List (Nat × Operand) → List SV → Option (List SV)
  | [], l => some l
  | (i, x) :: ps, l => match pl i with
    | none => none
    | some (off, n) => match (ev x).cells with
      | none => none
      | some c => bif Nat.beq c.length n && Nat.ble (off + n) l.length then fillS pl ev ps (setAt l off c) else none
def allSz : List Field → Bool
  | [] => true
  | f :: fs => match E.tt.get f.type with
    | some _ => allSz fs
    | none => false
def buildS (t : TypeId) (ev : Operand → SV) (ps : List (Nat × Operand)) (z : List SV) : Option (List SV) :=
  match und E t with
  | some (.struct fs) => bif allSz E fs.toList then fillS (slot E t) ev ps z else none
  | some (.array _ e) => match sizeO E e with
    | some _ => fillS (slot E t) ev ps z
    | none => none
  | _ => none
def rep {α : Type} (l : List α) : Nat → List α
  | 0 => []
  | n + 1 => l ++ rep l n

def partS (t : TypeId) (l : List SV) (off : Nat) : Option SV :=
  match isAggO E t with
  | some true => match sizeO E t with
    | some n => some (.agg (takeL (dropL l off) n))
    | none => none
  | some false => nth l off
  | none => none

def isPtrT (t : TypeId) : Bool := match und E t with | some (.pointer _) => true | _ => false
def isSliceT (t : TypeId) : Bool := match und E t with | some (.slice _) => true | _ => false
def isMapT (t : TypeId) : Bool := match und E t with | some (.map ..) => true | _ => false
def isFuncT (t : TypeId) : Bool := match und E t with | some (.func ..) => true | _ => false
def isIfaceT (t : TypeId) : Bool := match und E t with | some (.interface _) => true | _ => false
def sizedPtrT (t : TypeId) : Bool := match und E t with | some (.pointer e) => (match sizeO E e with | some n => Nat.ble 1 n | none => false) | _ => false
def tidOf : SV → Option TypeId
  | .iface t _ => some t
  | .val (.iface t _) => some t
  | _ => none
/-- Are two known, by ==, one of which is no plain value ? -/
def eqS (t : TypeId) (a b : SV) : Option Bool :=
  match a, b with
  | .ptr b off, .ptr c off' => bif Nat.beq b c && sizedPtrT E t then some (Nat.beq off off') else none
  | .ptr .., .val (.pointer none) => bif isPtrT E t then some false else none
  | .val (.pointer none), .ptr .. => bif isPtrT E t then some false else none
  | .slice .., .val (.slice none _ _) => bif isSliceT E t then some false else none
  | .val (.slice none _ _), .slice .. => bif isSliceT E t then some false else none
  | .map _, .val (.map none) => bif isMapT E t then some false else none
  | .val (.map none), .map _ => bif isMapT E t then some false else none
  | .func .., .val .nilFunc => bif isFuncT E t then some false else none
  | .val .nilFunc, .func .. => bif isFuncT E t then some false else none
  | .iface .., .val .nilIface => bif isIfaceT E t then some false else none
  | .val .nilIface, .iface .. => bif isIfaceT E t then some false else none
  | x, y => match tidOf x, tidOf y with
    | some u, some v => bif isIfaceT E t && not (Nat.beq u v) then some false else none
    | _, _ => none

def intOf : SV → Option Int
  | .val (.int _ n) => some n
  | _ => none
def natOf : SV → Option Nat
  | .val (.int _ (.ofNat n)) => some n
  | _ => none
def optNat (ev : Operand → SV) (d : Nat) : Option Operand → Option Nat
  | none => some d
  | some x => natOf (ev x)
def sliceSz (t : TypeId) : Option Nat :=
  match und E t with
  | some (.slice e) => sizeO E e
  | _ => none

def lenS : SV → Option Nat
  | .slice _ _ n _ => some n
  | .val (.slice none 0 0) => some 0
  | .val (.string s) => some s.size
  | _ => none
/-- The cells of the first n of a slice or string. -/
def firstS (h : Heap) (sz n : Nat) : SV → Option (List SV)
  | .slice b off len _ => match h.t.get b with
    | some (.row cs dfl size _) => bif Nat.ble n len && Nat.ble (off + n * sz) size then rowGets cs dfl off (n * sz) else none
    | _ => none
  | .val (.slice none 0 0) => some []
  | .val (.string s) => some ((takeL s.data.toList n).map fun b => .val (.int .u8 (Int.ofNat b.toNat)))
  | _ => none
def appNew (h : Heap) (e : TypeId) (sz k : Nat) (l : List SV) : SV × Heap := (.slice h.next 0 k none, h.new (.row (Tr.e.puts 0 l) [] (k * sz) e))
/-- A slice of which it isn't known how much room there is. -/
def appUnk (h : Heap) (e : TypeId) (sz b off m k : Nat) (new : List SV) : Option (SV × Heap) :=
  match h.t.get b with
  | some (.row cs dfl size el) => bif Nat.beq el e && Nat.ble (off + m * sz) size then
      bif Nat.beq off 0 && Nat.beq size (m * sz) then some (.slice h.next 0 k none, (h.new (.row (cs.puts (m * sz) new) dfl (k * sz) e)).kill b)
      else match rowGets cs dfl off (m * sz) with
      | some old => some (.slice h.next 0 k none, (h.new (.row (Tr.e.puts 0 (old ++ new)) [] (k * sz) e)).kill b)
      | none => none
    else none
  | _ => none
def appKnown (h : Heap) (e : TypeId) (sz b off m k c : Nat) (s : SV) (new : List SV) : Option (SV × Heap) :=
  bif Nat.ble k c then
    match h.t.get b with
    | some (.row cs dfl size el) => bif Nat.ble (off + k * sz) size then some (.slice b off k (some c), h.set b (.row (cs.puts (off + m * sz) new) dfl size el)) else none
    | _ => none
  else match firstS h sz m s with
    | none => none
    | some old => some (appNew h e sz k (old ++ new))
def slLen : SV → Option Nat
  | .slice _ _ n _ => some n
  | .val (.slice none 0 0) => some 0
  | _ => none
def appendS (h : Heap) (t : TypeId) (s x : SV) : Option (SV × Heap) :=
  match und E t with
  | some (.slice e) => match E.tt.get e with
    | none => none
    | some i => match i.zero with
      | none => none
      | some z => match slLen s, lenS x with
        | some m, some n =>
          match firstS h i.size n x with
          | none => none
          | some new =>
            bif Nat.beq new.length (n * i.size) then
            bif Nat.beq n 0 then some (s, h) else
            bif Nat.ble (m + n) 16777216 && Nat.ble i.bytes 65536 && Nat.beq (zcells z).length i.size then
              match s with
              | .slice b off _ (some c) => appKnown h e i.size b off m (m + n) c s new
              | .slice b off _ none => appUnk h e i.size b off m (m + n) new
              | _ => some (appNew h e i.size n new)
            else none
            else none
        | _, _ => none
  | _ => none
def copyS (h : Heap) (t : TypeId) (d s : SV) : Option (SV × Heap) :=
  match und E t with
  | some (.slice e) => match sizeO E e, lenS d, lenS s with
    | some sz, some m, some k =>
      let n := bif Nat.ble k m then k else m
      match firstS h sz n s, d with
      | some new, .slice b off _ _ => match h.t.get b with
        | some (.row cs dfl size el) => bif Nat.ble (off + n * sz) size && Nat.beq new.length (n * sz) then some (.val (.int .i64 (Int.ofNat n)), h.set b (.row (cs.puts off new) dfl size el)) else none
        | _ => none
      | some _, .val (.slice none 0 0) => some (.val (.int .i64 (Int.ofNat 0)), h)
      | _, _ => none
    | _, _, _ => none
  | _ => none
def wrapF (k : IntKind) (n : Int) : Int :=
  match n with
  | .ofNat m => match k with
    | .i8 => bif Nat.ble m 127 then .ofNat m else k.wrap (.ofNat m)
    | .i16 => bif Nat.ble m 32767 then .ofNat m else k.wrap (.ofNat m)
    | .i32 => bif Nat.ble m 2147483647 then .ofNat m else k.wrap (.ofNat m)
    | .i64 => bif Nat.ble m 9223372036854775807 then .ofNat m else k.wrap (.ofNat m)
    | .u8 => .ofNat (Nat.mod m 256)
    | .u16 => .ofNat (Nat.mod m 65536)
    | .u32 => .ofNat (Nat.mod m 4294967296)
    | .u64 => .ofNat (Nat.mod m 18446744073709551616)
  | .negSucc m => match k with
    | .i32 => bif Nat.ble m 2147483647 then .negSucc m else k.wrap (.negSucc m)
    | .i64 => bif Nat.ble m 9223372036854775807 then .negSucc m else k.wrap (.negSucc m)
    | k => k.wrap (.negSucc m)
def bytesOf : List SV → Option (List UInt8)
  | [] => some []
  | x :: l => match x with
    | .val (.int .u8 n) => match bytesOf l with
      | some bs => some (UInt8.ofNat n.toNat :: bs)
      | none => none
    | _ => none
def runesOf : List SV → ByteArray → Option ByteArray
  | [], acc => some acc
  | x :: l, acc => match x with
    | .val (.int .i32 n) => runesOf l (acc ++ Utf8.encode n)
    | _ => none
def isE : Tr SV → Bool
  | .e => true
  | _ => false
def zerosAt (h : Heap) (x : SV) : Option Nat :=
  match x with
  | .slice b off n _ => match h.t.get b with
    | some (.row cs [.val (.int .u8 (.ofNat z))] size _) => bif isE cs && Nat.beq z 0 && Nat.ble (off + n) size && Nat.ble 64 n then some n else none
    | _ => none
  | _ => none
def convS (h : Heap) (src dst : TypeId) (x : SV) : Option (SV × Heap) :=
  match und E src, und E dst, x with
  | some _, some (.int k), .val (.int _ n) => some (.val (.int k (wrapF k n)), h)
  | some .string, some (.slice e), .val (.string s) =>
    match und E e with
    | some (.int .u8) => match sizeO E e with
      | some 1 => some (.slice h.next 0 s.size none, h.new (.row (Tr.e.puts 0 (s.data.toList.map fun b => .val (.int .u8 (Int.ofNat b.toNat)))) [] s.size e))
      | _ => none
    | some (.int .i32) => match sizeO E e with
      | some 1 => let l := vals (Conv.runesFrom s s.size 0 #[])
        some (.slice h.next 0 l.length none, h.new (.row (Tr.e.puts 0 l) [] l.length e))
      | _ => none
    | _ => none
  | some (.slice e), some .string, .slice _ _ n _ =>
    match und E e with
    | some (.int .u8) => match zerosAt h x with
      | some m => some (.zstr m, h)
      | none => match firstS h 1 n x with
      | some l => match bytesOf l with
        | some bs => some (.val (.string ⟨⟨bs⟩⟩), h)
        | none => none
      | none => none
    | some (.int .i32) => match firstS h 1 n x with
      | some l => match runesOf l .empty with
        | some s => some (.val (.string s), h)
        | none => none
      | none => none
    | _ => none
  | _, _, .val v => match pureRun E.P (convert src dst v) with
    | some r => some (.val r, h)
    | none => none
  | _, _, _ => none

def keyed (es : List SEnt) : List MapEntry := es.map fun e => { key := e.key, val := .nilIface, born := e.born }
def findS (kt : TypeId) (k : Value) (es : List SEnt) : Option (Option Nat) :=
  match pureRun E.P (Instr.checkKey es.isEmpty 10000 kt k) with
  | none => none
  | some _ => match pureRun E.P (Instr.findKey kt k (keyed es)) with
    | some (some (i, _)) => some (some i)
    | some none => some none
    | none => none
def lookupS (h : Heap) (t : TypeId) (m k : SV) (ok : Bool) : Option SV :=
  match und E t, toVal k with
  | some (.map kt e), some kv =>
    let go (es : List SEnt) : Option SV := match findS E kt kv es with
      | none => none
      | some r => match (match r with | some i => (nth es i).map fun x => (x.val, true) | none => (zeroO E e).map fun z => (SV.val z, false)) with
        | none => none
        | some (v, b) => some (bif ok then .tup [v, .val (.bool b)] else v)
    match m with
    | .val (.map none) => go []
    | .map b => match h.t.get b with
      | some (.map es _) => go es
      | _ => none
    | _ => none
  | _, _ => none
def setEnt : List SEnt → Nat → Value → SV → List SEnt
  | [], _, _, _ => []
  | e :: es, i, k, v => bif i.beq 0 then { e with key := k, val := v } :: es else e :: setEnt es (i - 1) k v
def updateS (h : Heap) (t : TypeId) (m k v : SV) : Option Heap :=
  match und E t, toVal k, m with
  | some (.map kt _), some kv, .map b => match h.t.get b with
    | some (.map es clock) =>
      match pureRun E.P (Instr.checkKey false 10000 kt kv) with
      | none => none
      | some _ => match pureRun E.P (Instr.findKey kt kv (keyed es)) with
        | some (some (i, _)) => match nth es i with
          | some e => match pureRun E.P (Instr.keyThatStays e.key kv) with
            | some k' => some (h.set b (.map (setEnt es i k' v) clock))
            | none => none
          | none => none
        | some none => some (h.set b (.map (es ++ [⟨kv, v, clock⟩]) (clock + 1)))
        | none => none
    | _ => none
  | _, _, _ => none
def entryS (h : Heap) (t : TypeId) (m k : SV) : Option (SV × Heap) :=
  match und E t, toVal k, m with
  | some (.map kt e), some kv, .map b => match h.t.get b with
    | some (.map es clock) =>
      match pureRun E.P (Instr.checkKey false 10000 kt kv) with
      | none => none
      | some _ => match pureRun E.P (Instr.findKey kt kv (keyed es)) with
        | some (some (i, _)) => match nth es i with
          | some x => match pureRun E.P (Instr.keyThatStays x.key kv) with
            | some k' => some (.tup [x.val, .val (goInt (Int.ofNat x.born))], h.set b (.map (setEnt es i k' x.val) clock))
            | none => none
          | none => none
        | some none => match zeroO E e with
          | some z => some (.tup [.val z, .val (goInt (Int.ofNat clock))], h.set b (.map (es ++ [⟨kv, .val z, clock⟩]) (clock + 1)))
          | none => none
        | none => none
    | _ => none
  | _, _, _ => none
def storeBorn : List SEnt → Int → SV → Option (List SEnt)
  | [], _, _ => none
  | e :: es, b, v => bif decide ((e.born : Int) = b) then some ({ e with val := v } :: es) else (storeBorn es b v).map (e :: ·)
def entryStoreS (h : Heap) (m s v : SV) : Option Heap :=
  match m, s with
  | .map b, .val (.int _ n) => match h.t.get b with
    | some (.map es clock) => (storeBorn es n v).map fun es' => h.set b (.map es' clock)
    | _ => none
  | _, _ => none
def unseen (seen : List Nat) (es : List SEnt) : List SEnt := es.filter fun e => !seen.contains e.born
def nextS (h : Heap) (it : SV) (str : Bool) : Option (List (SV × Heap)) :=
  match it with
  | .ptr r 0 => match h.t.get r, str with
    | some (.siter s pos), true =>
      bif Nat.blt pos s.size then
        match Utf8.decode s pos with
        | (c, w) => some [(.tup [.val (.bool true), .val (goInt (Int.ofNat pos)), .val (.int .i32 (Int.ofNat c))], h.set r (.siter s (pos + w)))]
      else some [(.tup [.val (.bool false)], h)]
    | some (.miter none _ _ _), false => some [(.tup [.val (.bool false)], h)]
    | some (.miter (some m) since seen last), false => match h.t.get m with
      | some (.map es clock) =>
        bif !seen.isEmpty && !es.isEmpty && es.all (fun e => Nat.ble last e.born) then none else
        let left := unseen seen es
        let old := left.filter fun e => Nat.blt e.born since
        let new := left.filter fun e => Nat.ble since e.born
        some ((bif old.isEmpty then [(SV.tup [.val (.bool false)], h)] else []) ++ (old ++ new).map fun e =>
          (.tup [.val (.bool true), .val e.key, e.val], h.set r (.miter (some m) since (seen ++ [e.born]) clock)))
      | _ => none
    | _, _ => none
  | _ => none

def lastN : List Nat → Option Nat
  | [] => none
  | [x] => some x
  | _ :: xs => lastN xs
def findBorn : List SEnt → Nat → Option SEnt
  | [], _ => none
  | e :: es, b => bif e.born.beq b then some e else findBorn es b
def iterEntry (h : Heap) (it : SV) : Option SV :=
  match it with
  | .ptr r 0 => match h.t.get r with
    | some (.miter (some m) _ seen stepped) => match lastN seen, h.t.get m with
      | some b, some (.map es clock) => bif clock.beq stepped then match findBorn es b with
        | some e => some (.tup [.val e.key, e.val])
        | none => none else none
      | _, _ => none
    | _ => none
  | _ => none
def isIfaceD : TypeDesc → Bool
  | .interface _ => true
  | _ => false
/-- Is no method missing? -/
def missB (want : Array (String × TypeId)) (got : Array Method) : Bool :=
  (want.toList.filter fun (x : String × TypeId) => !got.any fun m => m.name == x.1 && m.sig == x.2).isEmpty
/-- Does a value of type d go over to t? -/
def assertI (d t : TypeId) : Option Bool :=
  match und E t, E.tt.get d with
  | some (.interface want), some i => some (missB want i.methods)
  | some (.interface _), none => none
  | some _, _ => some (Nat.beq d t)
  | none, _ => none
def assertD (d : TypeId) (v whole : SV) (t : TypeId) (ok : Bool) : Option SV :=
  match assertI E d t with
  | some true => match isIfaceT E t with
    | true => some (bif ok then .tup [whole, .val (.bool true)] else whole)
    | false => some (bif ok then .tup [v, .val (.bool true)] else v)
  | some false => bif ok then (match zeroO E t with
    | some z => some (.tup [.val z, .val (.bool false)])
    | none => none) else none
  | none => none
def assertS (x : SV) (xt t : TypeId) (ok : Bool) : Option SV :=
  match x with
  | .iface d v => assertD E d v (.iface d v) t ok
  | .val (.iface d v) => assertD E d (.val v) (.val (.iface d v)) t ok
  | .val .nilIface => match pureRun E.P (Instr.typeAssert .nilIface xt t ok) with
    | some r => some (.val r)
    | none => none
  | _ => none

def mapO {α β : Type} (f : α → Option β) : List α → Option (List β)
  | [] => some []
  | x :: xs => match f x with
    | none => none
    | some y => match mapO f xs with
      | none => none
      | some ys => some (y :: ys)

abbrev Outs := Option (List (SV × Heap))
def pv (h : Heap) (r : Option SV) : Outs := match r with | some v => some [(v, h)] | none => none
def ph (r : Option Heap) : Outs := match r with | some h => some [(.val (.tuple #[]), h)] | none => none
def pb (r : Option (SV × Heap)) : Outs := match r with | some v => some [v] | none => none
def oPick (h : Heap) (c a b : SV) : Outs :=
  match c with
  | .val (.bool t) => some [(bif t then a else b, h)]
  | _ => none
def oAlloc (h : Heap) (e : TypeId) : Outs :=
  match E.tt.get e with
  | some i => match i.zero with
    | some z => bif all1 (zcells z) then some [(.ptr h.next 0, h.new (.row .e (zcells z) (zcells z).length e))] else none
    | none => none
  | none => none
def oBuild (h : Heap) (st : St) (t : TypeId) (ps : List (Nat × Operand)) : Outs :=
  match zeroO E t with
  | some z => match buildS E t (opd st) ps (zcells z) with
    | some l => some [(.agg l, h)]
    | none => none
  | none => none
def oBuildSlice (h : Heap) (st : St) (t : TypeId) (n : Nat) (ps : List (Nat × Operand)) : Outs :=
  match und E t with
  | some (.slice e) => match E.tt.get e with
    | some i => match i.zero with
      | some z => bif Nat.beq (zcells z).length i.size && Nat.ble (n * i.size) 16777216 then
          match fillS (fun j => some (j * i.size, i.size)) (opd st) ps (rep (zcells z) n) with
          | some l => bif all1 l then some [(.slice h.next 0 n (some n), h.new (.row (Tr.e.puts 0 l) [] l.length e))] else none
          | none => none
        else none
      | none => none
    | none => none
  | _ => none
def oNilCheck (h : Heap) (x : SV) : Outs :=
  match x with
  | .ptr b off => some [(.ptr b off, h)]
  | .func (.func f) l m => some [(.func (.func f) l m, h)]
  | .func (.yield f) l m => some [(.func (.yield f) l m, h)]
  | .iface t x => some [(.iface t x, h)]
  | .val v => match v with
    | .pointer (some a) => some [(.val (.pointer (some a)), h)]
    | .iface t x => some [(.val (.iface t x), h)]
    | _ => none
  | _ => none
def isEqOp : BinOp → Option Bool
  | .eql => some true
  | .neq => some false
  | _ => none
def kindNo : IntKind → Nat
  | .i8 => 0 | .i16 => 1 | .i32 => 2 | .i64 => 3 | .u8 => 4 | .u16 => 5 | .u32 => 6 | .u64 => 7
def lim (k : IntKind) : Nat :=
  match k with
  | .i8 => 128 | .i16 => 32768 | .i32 => 2147483648 | .i64 => 9223372036854775808 | .u8 => 256 | .u16 => 65536 | .u32 => 4294967296 | .u64 => 18446744073709551616
def subN (m n : Nat) : Int := bif Nat.ble n m then .ofNat (Nat.sub m n) else .negSucc (Nat.pred (Nat.sub n m))
def natBin (op : BinOp) (k : IntKind) (m n : Nat) : Option Value :=
  match op with
  | .add => some (.int k (wrapF k (.ofNat (Nat.add m n))))
  | .sub => some (.int k (wrapF k (subN m n)))
  | .mul => some (.int k (wrapF k (.ofNat (Nat.mul m n))))
  | .eql => some (.bool (Nat.beq m n))
  | .neq => some (.bool (not (Nat.beq m n)))
  | .lss => some (.bool (Nat.ble (Nat.succ m) n))
  | .leq => some (.bool (Nat.ble m n))
  | .gtr => some (.bool (Nat.ble (Nat.succ n) m))
  | .geq => some (.bool (Nat.ble n m))
  | .quo => bif Nat.beq n 0 then none else some (.int k (wrapF k (.ofNat (Nat.div m n))))
  | .rem => bif Nat.beq n 0 then none else some (.int k (.ofNat (Nat.mod m n)))
  | .and => bif Nat.blt m (lim k) && Nat.blt n (lim k) then some (.int k (.ofNat (Nat.land m n))) else none
  | .or => bif Nat.blt m (lim k) && Nat.blt n (lim k) then some (.int k (.ofNat (Nat.lor m n))) else none
  | .xor => bif Nat.blt m (lim k) && Nat.blt n (lim k) then some (.int k (.ofNat (Nat.xor m n))) else none
  | _ => none
def shiftBin (op : BinOp) (k : IntKind) (m n : Nat) : Option Value :=
  bif Nat.blt (8 * 8) n then none else match op with
  | .shr => bif Nat.ble n k.bits then some (.int k (.ofNat (Nat.shiftRight m n))) else none
  | .shl => bif Nat.ble n k.bits then some (.int k (wrapF k (.ofNat (Nat.shiftLeft m n)))) else none
  | _ => none
def isShift : BinOp → Bool
  | .shl | .shr => true
  | _ => false
def intBin (op : BinOp) (k : IntKind) (a : Int) (k' : IntKind) (b : Int) : Option Value :=
  match a, b with
  | .ofNat m, .ofNat n => bif isShift op then shiftBin op k m n else bif Nat.beq (kindNo k) (kindNo k') then natBin op k m n else none
  | a, b => bif Nat.beq (kindNo k) (kindNo k') then match op with
    | .add => some (.int k (wrapF k (Int.add a b)))
    | .eql => some (.bool (decide (a = b)))
    | .neq => some (.bool (!decide (a = b)))
    | .lss => some (.bool (decide (a < b)))
    | .leq => some (.bool (decide (a ≤ b)))
    | .gtr => some (.bool (decide (b < a)))
    | .geq => some (.bool (decide (b ≤ a)))
    | _ => none
    else none
def eqB : List UInt8 → List UInt8 → Bool
  | [], [] => true
  | a :: x, b :: y => bif Nat.beq a.toNat b.toNat then eqB x y else false
  | _, _ => false
def strBin (op : BinOp) (a b : List UInt8) : Option Value :=
  match op with
  | .eql => some (.bool (eqB a b))
  | .neq => some (.bool (!eqB a b))
  | .add => bif Nat.ble (Nat.add a.length b.length) 9223372036854775807 then some (.string ⟨⟨a ++ b⟩⟩) else none
  | _ => none
def genBin (h : Heap) (op : BinOp) (t : TypeId) (x y : Operand) (a b : Value) : Outs :=
  match pureRun E.P (eqGuard op t x y a b) with
  | some _ => match pureRun E.P (binOp op t a b) with
    | some v => some [(.val v, h)]
    | none => none
  | none => none
def isNilIface : SV → Bool
  | .val .nilIface => true
  | _ => false
def oBin2 (h : Heap) (op : BinOp) (t : TypeId) (x y : Operand) (a b : SV) : Outs :=
  match toVal a, toVal b with
  | some a, some b => genBin E h op t x y a b
  | _, _ => match isEqOp op with
    | some e => match eqS E t a b with
      | some r => some [(.val (.bool (r == e)), h)]
      | none => none
    | none => none
def oBin (h : Heap) (op : BinOp) (t : TypeId) (x y : Operand) (a b : SV) : Outs :=
  match a, b with
  | .val (.int k a), .val (.int k' b) => match intBin op k a k' b with
    | some v => some [(.val v, h)]
    | none => genBin E h op t x y (.int k a) (.int k' b)
  | .val (.string a), .val (.string b) => match strBin op a.data.toList b.data.toList with
    | some v => some [(.val v, h)]
    | none => genBin E h op t x y (.string a) (.string b)
  | a, b => oBin2 E h op t x y a b
def oUn (h : Heap) (op : UnOp) (x : SV) : Outs :=
  match x with
  | .val v => match pureRun E.P (Op.unary op v) with
    | some r => some [(.val r, h)]
    | none => none
  | _ => none
def oMakeIface (h : Heap) (t : TypeId) (x : SV) : Outs :=
  match und E t with
  | some (.interface _) => none
  | some _ => match x with
    | .val v => some [(.val (.iface t v), h)]
    | v => some [(.iface t v, h)]
  | none => none
def oMakeSlice (h : Heap) (t : TypeId) (l c : SV) : Outs :=
  match und E t with
  | some (.slice e) => match E.tt.get e, natOf l, natOf c with
    | some i, some l, some c => match i.zero with
      | some z => bif Nat.ble l c && Nat.ble c 140737488355328 && Nat.ble (i.bytes * c) 140737488355328 && Nat.beq (zcells z).length i.size && all1 (zcells z) then
          some [(.slice h.next 0 l (some c), h.new (.row .e (zcells z) (c * i.size) e))]
        else none
      | none => none
    | _, _, _ => none
  | _ => none
def natOr (d : Nat) : Option SV → Option Nat
  | none => some d
  | some x => natOf x
def sliceStr (h : Heap) (t : TypeId) (s : ByteArray) (lo hi mx : Option SV) : Outs :=
  match und E t, natOr 0 lo, natOr s.size hi, mx with
  | some .string, some l, some u, none => bif Nat.ble l u && Nat.ble u s.size then some [(.val (.string ⟨⟨takeL (dropL s.data.toList l) (Nat.sub u l)⟩⟩), h)] else none
  | _, _, _, _ => none
/-- Is a row of elements of this type? -/
def rowOf (h : Heap) (t : TypeId) (b : Nat) : Bool :=
  match und E t, h.t.get b with
  | some (.slice e), some (.row _ _ _ el) => Nat.beq el e
  | _, _ => false
def sliceSl (h : Heap) (t : TypeId) (b off len : Nat) (cap : Option Nat) (lo hi mx : Option SV) : Outs :=
  match sliceSz E t, natOr 0 lo, natOr len hi with
  | some sz, some l, some u =>
    match mx with
    | none => match cap with
      | some c => bif Nat.ble l u && Nat.ble u c then
          bif Nat.beq l c then some [(.slice b off 0 (some 0), h)] else some [(.slice b (off + l * sz) (u - l) (some (c - l)), h)]
        else none
      | none => bif Nat.ble l u && Nat.ble u len && not (Nat.beq l len) && rowOf E h t b then some [(.slice b (off + l * sz) (u - l) none, h)] else none
    | some m => match natOf m, hi with
      | some m, some _ => bif Nat.ble l u && Nat.ble u m && Nat.ble m (cap.getD len) then
          bif Nat.beq l m then some [(.slice b off 0 (some 0), h)] else some [(.slice b (off + l * sz) (u - l) (some (m - l)), h)]
        else none
      | _, _ => none
  | _, _, _ => none
def sliceArr (h : Heap) (t : TypeId) (b off : Nat) (lo hi mx : Option SV) : Outs :=
  match und E t, mx with
  | some (.array n e), none => match sizeO E e, natOr 0 lo, natOr n hi with
    | some sz, some l, some u => bif Nat.ble l u && Nat.ble u n then
        bif Nat.beq l n then some [(.slice b off 0 (some 0), h)] else some [(.slice b (off + l * sz) (u - l) (some (n - l)), h)]
      else none
    | _, _, _ => none
  | _, _ => none
def sliceNil (h : Heap) (t : TypeId) (lo hi mx : Option SV) : Outs :=
  match sliceSz E t, natOr 0 lo, natOr 0 hi, mx with
  | some _, some 0, some 0, none => some [(.val (.slice none 0 0), h)]
  | _, _, _, _ => none
def oSlice (h : Heap) (t : TypeId) (x : SV) (lo hi mx : Option SV) : Outs :=
  match x with
  | .val (.string s) => sliceStr E h t s lo hi mx
  | .slice b off len cap => sliceSl E h t b off len cap lo hi mx
  | .val (.slice none 0 0) => sliceNil E h t lo hi mx
  | .ptr b off => sliceArr E h t b off lo hi mx
  | _ => none
def oFieldAddr (h : Heap) (s : TypeId) (x : SV) (f : Nat) : Outs :=
  match x with
  | .ptr b off => match und E s with
    | some (.struct fs) => match nth fs.toList f with
      | some fd => match sizeO E fd.type with
        | some n => bif Nat.beq n 0 then none else some [(.ptr b (off + fd.offset), h)]
        | none => none
      | none => none
    | _ => none
  | _ => none
def isAggV : SV → Bool
  | .agg _ => true
  | .arr .. => true
  | .val v => match v with
    | .agg _ => true
    | _ => false
  | _ => false
def oField (h : Heap) (t : TypeId) (x : SV) (f : Nat) : Outs :=
  match und E t, isAggV x with
  | some (.struct fs), true => match nth fs.toList f, x.cells with
    | some fd, some l => pv h (partS E fd.type l fd.offset)
    | _, _ => none
  | _, _ => none
def oIndexAddr (h : Heap) (t : TypeId) (x i : SV) : Outs :=
  match natOf i with
  | none => none
  | some i => match x with
    | .slice b off len _ => match sliceSz E t with
      | some sz => bif Nat.blt i len then some [(.ptr b (off + i * sz), h)] else none
      | none => none
    | .ptr b off => match und E t with
      | some (.array n e) => match sizeO E e with
        | some sz => bif Nat.blt i n then some [(.ptr b (off + i * sz), h)] else none
        | none => none
      | _ => none
    | _ => none
def oIndexArr (h : Heap) (t : TypeId) (x : SV) (i : Nat) : Outs :=
  match und E t with
  | some (.array n e) => match sizeO E e with
    | some sz => bif Nat.blt i n then
        match x, isAggO E e with
        | .arr cs dfl m, some false => bif Nat.blt (i * sz) m then pv h (rowGet cs dfl (i * sz)) else none
        | x, _ => bif isAggV x then match x.cells with
          | some l => pv h (partS E e l (i * sz))
          | none => none
          else none
      else none
    | none => none
  | _ => none
def oIndex (h : Heap) (t : TypeId) (x i : SV) : Outs :=
  match natOf i with
  | none => none
  | some i => match x with
    | .val (.string s) => match und E t with
      | some .string => match nth s.data.toList i with
        | some b => some [(.val (.int .u8 (Int.ofNat b.toNat)), h)]
        | none => none
      | _ => none
    | x => oIndexArr E h t x i
def oRange (h : Heap) (t : TypeId) (x : SV) : Outs :=
  match und E t, x with
  | some .string, .val (.string s) => some [(.ptr h.next 0, h.new (.siter s 0))]
  | some (.map ..), .val (.map none) => some [(.ptr h.next 0, h.new (.miter none 0 [] 0))]
  | some (.map ..), .map m => match h.t.get m with
    | some (.map _ clock) => some [(.ptr h.next 0, h.new (.miter (some m) clock [] clock))]
    | _ => none
  | _, _ => none
def oExtract (h : Heap) (x : SV) (i : Nat) : Outs :=
  match x with
  | .tup l => pv h (nth l i)
  | .val (.tuple vs) => pv h (nth (vals vs) i)
  | _ => none
def oArrayAt (h : Heap) (t : TypeId) (x : SV) : Outs :=
  match und E t, x with
  | some (.array n _), .slice b off len _ => bif Nat.ble n len && Nat.blt 0 n then some [(.ptr b off, h)] else none
  | _, _ => none
def oMakeMap (h : Heap) (t : TypeId) (r : Option SV) : Outs :=
  match r with
  | none => some [(.map h.next, h.new (.map [] 0))]
  | some x => match und E t, natOf x with
    | some (.map ..), some _ => some [(.map h.next, h.new (.map [] 0))]
    | _, _ => none
def oMakeFunc (h : Heap) (fn : Fn) (l m : List SV) : Outs :=
  match fn with
  | .func f => some [(.func (.func f) l m, h)]
  | .method n => some [(.func (.method n) l m, h)]
  | _ => none
/-- An operation that calls nothing. -/
def small (h : Heap) (st : St) (op : Op) : Outs :=
  match op with
  | .move x => some [(opd st x, h)]
  | .assign x => some [(opd st x, h)]
  | .pick c a b => oPick h (opd st c) (opd st a) (opd st b)
  | .alloc e => oAlloc E h e
  | .box e x => pb (newRowS E h e (opd st x).cells)
  | .build t ps => oBuild E h st t ps.toList
  | .buildSlice t n ps => oBuildSlice E h st t n ps.toList
  | .load t a => pv h (loadS E h t (opd st a))
  | .store t a v => ph (storeS E h t (opd st a) (opd st v))
  | .nilCheck x => oNilCheck h (opd st x)
  | .binOp op t x y _ => oBin E h op t x y (opd st x) (opd st y)
  | .unOp op _ x => oUn E h op (opd st x)
  | .convert s d x => pb (convS E h s d (opd st x))
  | .makeInterface t x => oMakeIface E h t (opd st x)
  | .makeFunc fn first cap => oMakeFunc h fn (first.toList.map (opd st)) (cap.toList.map (opd st))
  | .makeMap t r => oMakeMap E h t (r.map (opd st))
  | .makeSlice t l c => oMakeSlice E h t (opd st l) (opd st c)
  | .slice t x lo hi mx => oSlice E h t (opd st x) (lo.map (opd st)) (hi.map (opd st)) (mx.map (opd st))
  | .fieldAddr s x f => oFieldAddr E h s (opd st x) f
  | .field t x f => oField E h t (opd st x) f
  | .indexAddr t x i => oIndexAddr E h t (opd st x) (opd st i)
  | .index t x i => oIndex E h t (opd st x) (opd st i)
  | .lookup t m k ok => pv h (lookupS E h t (opd st m) (opd st k) ok)
  | .mapUpdate t m k v => ph (updateS E h t (opd st m) (opd st k) (opd st v))
  | .insert t m k v => ph (updateS E h t (opd st m) (opd st k) (opd st v))
  | .mapEntry t m k => pb (entryS E h t (opd st m) (opd st k))
  | .entryStore _ m s v => ph (entryStoreS h (opd st m) (opd st s) (opd st v))
  | .range t x => oRange E h t (opd st x)
  | .next it str => nextS h (opd st it) str
  | .entry it => pv h (iterEntry h (opd st it))
  | .typeAssert x xt t ok => pv h (assertS E (opd st x) xt t ok)
  | .extract t i => oExtract h (opd st t) i
  | .sliceToArrayPointer t x => oArrayAt E h t (opd st x)
  | _ => none

def lenB (h : Heap) (t : TypeId) (x : SV) : Option (SV × Heap) :=
  match x with
  | .slice _ _ n _ => bif isSliceT E t then some (.val (goInt (Int.ofNat n)), h) else none
  | .zstr n => match und E t with
    | some .string => some (.val (goInt (Int.ofNat n)), h)
    | _ => none
  | .map b => match isMapT E t, h.t.get b with
    | true, some (.map es _) => some (.val (goInt (Int.ofNat es.length)), h)
    | _, _ => none
  | .val v => match pureRun E.P (Builtin.len_ #[t] 0 #[v]) with
    | some r => some (.val r, h)
    | none => none
  | _ => match und E t with
    | some (.array n _) => some (.val (goInt (Int.ofNat n)), h)
    | _ => none
def capB (h : Heap) (t : TypeId) (x : SV) : Option (SV × Heap) :=
  match x with
  | .slice _ _ _ (some c) => bif isSliceT E t then some (.val (goInt (Int.ofNat c)), h) else none
  | .val v => match pureRun E.P (Builtin.cap_ #[t] 0 #[v]) with
    | some r => some (.val r, h)
    | none => none
  | _ => none
def isIntV : SV → Bool
  | .val (.int ..) => true
  | _ => false
def isIntT (t : TypeId) : Bool := match und E t with | some (.int _) => true | _ => false
def minmaxB (h : Heap) (f : List Value → Sem Value) (args : List SV) : Option (SV × Heap) :=
  match toVals args with
  | some vs => match pureRun E.P (f vs) with
    | some r => some (.val r, h)
    | none => none
  | none => none
def deleteB (h : Heap) (t : TypeId) (m k : SV) : Option (SV × Heap) :=
  match und E t, toVal k, m with
  | some (.map kt _), some kv, .map b => match h.t.get b with
    | some (.map es clock) => match findS E kt kv es with
      | some (some i) => some (.val (.tuple #[]), h.set b (.map (es.eraseIdx i) clock))
      | some none => some (.val (.tuple #[]), h.set b (.map es clock))
      | none => none
    | _ => none
  | _, _, _ => none
def builtinS (h : Heap) (b : Builtin) (ts : List TypeId) (args : List SV) : Option (SV × Heap) :=
  match b, ts, args with
  | .len, [t], [x] => lenB E h t x
  | .cap, [t], [x] => capB E h t x
  | .append, [t, u], [s, x] => match und E u with
    | some (.int _) => none
    | some _ => appendS E h t s x
    | none => none
  | .copy, [t, _u], [d, s] => copyS E h t d s
  | .delete, [t, _u], [m, k] => deleteB E h t m k
  | .min, ts, args => minmaxB E h (fun vs => Builtin.min_ ts.toArray 0 vs.toArray) args
  | .max, ts, args => minmaxB E h (fun vs => Builtin.max_ ts.toArray 0 vs.toArray) args
  | _, _, _ => none
end
end
end Go.Ev
