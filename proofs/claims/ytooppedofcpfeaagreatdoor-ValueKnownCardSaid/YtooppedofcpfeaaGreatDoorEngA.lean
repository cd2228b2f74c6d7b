/- A closed run of the translated program as a function that Lean's kernel can evaluate: the evaluator (no proofs here). -/
import Derived.OrdersIn
set_option linter.all false
namespace Go.Eng

/-- A map by numbers: 0 at the root, odd numbers to the left, even ones to the right. -/
inductive Tr (α : Type) where
  | e
  | n (v : Option α) (l r : Tr α)

namespace Tr
variable {α : Type}
def get : Tr α → Nat → Option α
  | .e, _ => none
  | .n v l r, k => cond (Nat.beq k 0) v (cond (Nat.beq (k % 2) 1) (l.get (k / 2)) (r.get (k / 2 - 1)))
def val : Tr α → Option α | .e => none | .n v _ _ => v
def lft : Tr α → Tr α | .e => .e | .n _ l _ => l
def rgt : Tr α → Tr α | .e => .e | .n _ _ r => r
/-- Sets the place k to x, and hands the new map on (put together before it is handed on). -/
def setK {β : Type} : Nat → Tr α → Nat → Option α → (Tr α → β) → β
  | 0, t, _, _, c => c t
  | f + 1, t, k, x, c =>
    cond (Nat.beq k 0) (c (.n x t.lft t.rgt))
      (cond (Nat.beq (k % 2) 1) (setK f t.lft (k / 2) x fun l => c (.n t.val l t.rgt))
        (setK f t.rgt (k / 2 - 1) x fun r => c (.n t.val t.lft r)))
def set (t : Tr α) (k : Nat) (x : Option α) : Tr α := setK 40 t k x id
def ofList (l : List α) : Tr α := go l 0 .e
where go : List α → Nat → Tr α → Tr α
  | [], _, t => t
  | x :: l, k, t => setK 40 t k (some x) (go l (k + 1))
end Tr

/-! What is put together before it is handed on. -/
def forceNat {β : Type} (n : Nat) (k : Nat → β) : β :=
  match n with
  | 0 => k 0
  | m + 1 => k (m + 1)
def forceInt {β : Type} (n : Int) (k : Int → β) : β :=
  match n with
  | .ofNat m => forceNat m fun m => k (.ofNat m)
  | .negSucc m => forceNat m fun m => k (.negSucc m)
def forceAddr {β : Type} (a : Addr) (k : Addr → β) : β := forceNat a.block fun b => forceNat a.off fun o => k ⟨b, o, a.spot⟩
def forceList {α β : Type} (f : α → (α → β) → β) : Nat → List α → (List α → β) → β
  | 0, l, k => k l
  | _ + 1, [], k => k []
  | n + 1, x :: l, k => f x fun x => forceList f n l fun l => k (x :: l)
def forceV {β : Type} : Nat → Value → (Value → β) → β
  | 0, v, k => k v
  | n + 1, v, k =>
    match v with
    | .bool b => cond b (k (.bool true)) (k (.bool false))
    | .int i x => forceInt x fun x => k (.int i x)
    | .pointer (some a) => forceAddr a fun a => k (.pointer (some a))
    | .slice (some a) l c => forceAddr a fun a => forceNat l fun l => forceNat c fun c => k (.slice (some a) l c)
    | .slice none l c => forceNat l fun l => forceNat c fun c => k (.slice none l c)
    | .string s => forceList (fun x k => k x) 40 s.data.toList fun l => k (.string ⟨⟨l⟩⟩)
    | .iface t x => forceV n x fun x => k (.iface t x)
    | .agg cs => forceList (forceV n) 40 cs.toList fun l => k (.agg ⟨l⟩)
    | .tuple cs => forceList (forceV n) 40 cs.toList fun l => k (.tuple ⟨l⟩)
    | .func fn a b => forceList (forceV n) 10 a.toList fun a => forceList (forceV n) 10 b.toList fun b => k (.func fn ⟨a⟩ ⟨b⟩)
    | v => k v

/-- A block as it is followed: a row of cells (grown: what it really has may be longer), a loop over a function, the block of its deferred calls. -/
inductive AObj where
  | cells (c : List Value) (el : TypeId) (fz : Nat × Nat) (grown : Bool)
  | loop (state : LoopState) (pending : Option Code) (fid : FuncId) (T : Tr Value) (nt : Nat) (params : Array Tmp) (assign body : Code) (defers : Nat)
  | deferred (d : Option (List Deferred))

/-- The blocks that are followed, the next number, and numbers that nothing which is followed now speaks of. -/
structure Heap where
  m : Tr AObj
  next : Nat
  ghost : List Nat := []

def Heap.get (h : Heap) (b : Nat) : Option AObj := h.m.get b
def Heap.set (h : Heap) (b : Nat) (o : Option AObj) : Heap := { h with m := h.m.set b o }
def Heap.new (h : Heap) (o : AObj) : Heap := { h with m := h.m.set h.next (some o), next := h.next + 1 }
def forceObj {β : Type} (o : AObj) (k : AObj → β) : β :=
  match o with
  | .cells c el fz g => forceList (forceV 4) 100 c fun c => k (.cells c el fz g)
  | o => k o
inductive Ext where
  | indexByte | compare
  deriving DecidableEq

/-- What the evaluator asks of the program. -/
structure Tab where
  info : Nat → Option TypeInfo
  und : Nat → Option TypeDesc
  fn : Nat → Option Func
  ext : Nat → Option Ext
  N0 : Nat

/-- What an operation does to the heap: nothing; a new block; a block is another one; a block is forgotten, and a new one is there. -/
inductive Delta where
  | same
  | new (o : AObj)
  | set (b : Nat) (o : AObj)
  | grow (b : Nat) (o : AObj)

inductive Out where
  | val (v : Value) (d : Delta)
  | enter (f : FuncId) (args : List Value)
  | round (l : Nat) (args : List Value)
  | defer (d : Deferred)
  | recover
  | panic (v : Value)

def isCell : Value → Bool | .agg _ => false | .tuple _ => false | _ => true
def isAggD : TypeDesc → Bool | .struct _ => true | .array _ _ => true | _ => false

/-- Is a value free of places in memory? -/
def plain : Nat → Value → Bool
  | _, .bool _ | _, .int _ _ | _, .float _ _ | _, .complex _ _ _ | _, .string _ | _, .pointer none | _, .slice none _ _ | _, .map none | _, .chan none | _, .nilFunc | _, .nilIface => true
  | 0, _ => false
  | n + 1, .func (.yield _) _ _ => false
  | n + 1, .func _ a b => a.toList.all (plain n) && b.toList.all (plain n)
  | n + 1, .iface _ v => plain n v
  | n + 1, .agg cs => cs.toList.all (plain n)
  | n + 1, .tuple cs => cs.toList.all (plain n)
  | _, _ => false

variable (Z : Tab)

def takeN (l : List Value) (off n : Nat) : Option (List Value) :=
  let r := (l.drop off).take n
  if r.length = n then some r else none

def loadV (h : Heap) (t : TypeId) (a : Addr) : Option Value := do
  if a.spot.isSome then none
  let .cells c _ _ _ ← h.get a.block | none
  let d ← Z.und t
  if isAggD d then
    let i ← Z.info t
    let r ← takeN c a.off i.size
    some (.agg r.toArray)
  else c[a.off]?

def putCells : List Value → Nat → List Value → List Value
  | c, _, [] => c
  | c, i, v :: vs => putCells (c.set i v) (i + 1) vs

def storeCellsA (h : Heap) (a : Addr) (vs : List Value) : Option Delta := do
  if a.spot.isSome then none
  if a.block < Z.N0 then none
  let .cells c el fz g ← h.get a.block | none
  if a.off + vs.length ≤ c.length && vs.all isCell && (fz.2 ≤ a.off || a.off + vs.length ≤ fz.1) then
    some (.set a.block (.cells (putCells c a.off vs) el fz g))
  else none

def storeV (h : Heap) (t : TypeId) (a : Addr) (v : Value) : Option Delta := do
  let i ← Z.info t
  let vs := v.cells.toList
  if vs.length = i.size then storeCellsA Z h a vs else none

def intOf? : Value → Option Int | .int _ n => some n | _ => none

/-- The slice (low, high) of so many. -/
def bound (x : Option Value) (d y : Nat) : Option Nat :=
  match x with
  | none => some d
  | some (.int _ i) => if 0 ≤ i ∧ i ≤ y then some i.toNat else none
  | some _ => none

def sliceA (h : Heap) (t : TypeId) (x : Value) (lo hi mx : Option Value) : Option Value := do
  if mx.isSome then none
  match ← Z.und t, x with
  | .string, .string s => do
    let hh ← bound hi s.size s.size
    let l ← bound lo 0 hh
    some (.string (s.extract l hh))
  | .slice el, .slice a len cap => do
    let hh ← bound hi len cap
    let l ← bound lo 0 hh
    let i ← Z.info el
    match a with
    | none => some (.slice none (hh - l) (cap - l))
    | some ad =>
      let .cells _ _ _ g ← h.get ad.block | none
      if g then (if l = 0 then some (.slice (some ad) (hh - l) (cap - l)) else if l < cap then some (.slice (some (ad.add (l * i.size))) (hh - l) (cap - l)) else none)
      else some (.slice (some (if cap = l then ad else ad.add (l * i.size))) (hh - l) (cap - l))
  | .array n el, .pointer (some ad) => do
    let hh ← bound hi n n
    let l ← bound lo 0 hh
    let i ← Z.info el
    let .cells _ _ _ g ← h.get ad.block | none
    if g then none else some (.slice (some (if n = l then ad else ad.add (l * i.size))) (hh - l) (n - l))
  | _, _ => none

def indexAddrA (t : TypeId) (x ix : Value) : Option Value := do
  let .int _ i := ix | none
  match ← Z.und t, x with
  | .array n el, .pointer (some a) => do
    let e ← Z.info el
    if 0 ≤ i ∧ i < n then some (.pointer (some (a.add (i.toNat * e.size)))) else none
  | .slice el, .slice (some a) n _ => do
    let e ← Z.info el
    if 0 ≤ i ∧ i < n then some (.pointer (some (a.add (i.toNat * e.size)))) else none
  | _, _ => none

def partA (t : TypeId) (cs : Array Value) (off : Nat) : Option Value := do
  let d ← Z.und t
  if isAggD d then
    let i ← Z.info t
    some (.agg (cs.extract off (off + i.size)))
  else cs[off]?

def indexA (t : TypeId) (x ix : Value) : Option Value := do
  let .int _ i := ix | none
  match ← Z.und t, x with
  | .array n el, .agg cs => do
    let e ← Z.info el
    if 0 ≤ i ∧ i < n then partA Z el cs (i.toNat * e.size) else none
  | .string, .string s => if 0 ≤ i then (s[i.toNat]?).map fun b => .int .u8 b.toNat else none
  | _, _ => none

def fieldAddrA (t : TypeId) (x : Value) (f : Nat) : Option Value := do
  let .struct fs ← Z.und t | none
  let fl ← fs[f]?
  let i ← Z.info fl.type
  let .pointer (some a) := x | none
  if i.size = 0 then none else some (.pointer (some (a.add fl.offset)))

def fieldA (t : TypeId) (x : Value) (f : Nat) : Option Value := do
  let .struct fs ← Z.und t | none
  let fl ← fs[f]?
  let .agg cs := x | none
  partA Z fl.type cs fl.offset

def scalar : Value → Bool
  | .bool _ | .int _ _ | .string _ => true
  | _ => false

/-- A computation that asks memory for nothing, and answers a number, a truth value or a string. -/
def pureOf : Sem Value → Option Value
  | .pure a => cond (scalar a) (some a) none
  | _ => none

/-- Two interface values, of types whose values are numbers. -/
def ifaceEq (t tx ty : TypeId) (vx vy : Value) : Option Bool := do
  let .interface _ ← Z.und t | none
  if tx ≠ ty then some false else
  let i ← Z.info tx
  if !i.comparable then none else
  match ← Z.und tx, vx, vy with
  | .int _, .int k a, .int k' b => if k = k' then some (a == b) else none
  | _, _, _ => none

def isNum : Value → Bool
  | .bool _ => false
  | _ => true

def isConst : Operand → Bool
  | .const _ => true
  | _ => false

def isDiv : BinOp → Bool
  | .quo | .rem | .shl | .shr => true
  | _ => false

/-- Divisions and shifts, where they do not panic. -/
def divA (op : BinOp) (k : IntKind) (a : Int) (k' : IntKind) (b : Int) : Option Value :=
  match op with
  | .quo => if k = k' ∧ b ≠ 0 then pureOf (Op.intDiv .quo k a b) else none
  | .rem => if k = k' ∧ b ≠ 0 then pureOf (Op.intDiv .rem k a b) else none
  | .shl => if 0 ≤ b then pureOf (Op.shift .shl k a k' b) else none
  | .shr => if 0 ≤ b then pureOf (Op.shift .shr k a k' b) else none
  | _ => none

/-- What 'the same' says of a test for equality, or for the contrary. -/
def eqlA (op : BinOp) (b : Bool) : Option Value :=
  match op with
  | .eql => some (.bool b)
  | .neq => some (.bool (!b))
  | _ => none

def isIfaceD : Option TypeDesc → Bool
  | some (.interface _) => true
  | _ => false
def isBoolD : Option TypeDesc → Bool
  | some .bool => true
  | _ => false

def binOpA (op : BinOp) (t : TypeId) (lit : Bool) (x y : Value) : Option Value :=
  if scalar x && scalar y && !isDiv op && isNum x then pureOf (binOp op t x y)
  else match x, y with
  | .int k a, .int k' b => divA op k a k' b
  | .bool a, .bool b => if isBoolD (Z.und t) then eqlA op (a == b) else none
  | .nilIface, .nilIface => if lit && isIfaceD (Z.und t) then eqlA op true else none
  | .iface tx vx, .iface ty vy => (ifaceEq Z t tx ty vx vy).bind (eqlA op)
  | .iface _ _, .nilIface => if isIfaceD (Z.und t) then eqlA op false else none
  | .nilIface, .iface _ _ => if isIfaceD (Z.und t) then eqlA op false else none
  | _, _ => none

def convertA (h : Heap) (src dst : TypeId) (x : Value) : Option Value := do
  match ← Z.und src, ← Z.und dst, x with
  | _, .int k, .int _ n => pureOf (Conv.intToInt k n)
  | _, .string, .int _ n => pureOf (Conv.intToString n)
  | _, .string, .string s => some (.string s)
  | .slice e, .string, .slice a len _ =>
    match ← Z.und e with
    | .int .u8 =>
      match a with
      | none => some (.string .empty)
      | some ad =>
        if ad.spot.isSome then none else
        let .cells c _ _ _ ← h.get ad.block | none
        let r ← takeN c ad.off len
        let bs ← r.mapM fun | .int .u8 n => some (UInt8.ofNat n.toNat) | _ => none
        some (.string ⟨bs.toArray⟩)
    | _ => none
  | _, _, _ => none

/-- '[]byte(s)': what is behind its bytes is not known. -/
def toBytesA (h : Heap) (src dst : TypeId) (x : Value) : Option (Value × Delta) := do
  let .string s := x | none
  let .string ← Z.und src | none
  let .slice e ← Z.und dst | none
  let .int .u8 ← Z.und e | none
  let i ← Z.info e
  if i.size ≠ 1 then none
  some (.slice (some ⟨h.next, 0, none⟩) s.size s.size, .new (.cells (s.data.toList.map fun b => .int .u8 b.toNat) e (s.size, s.size + 1) true))

def lenOfA : Value → Option Nat
  | .slice _ n _ => some n
  | .string s => some s.size
  | _ => none

def firstCellsA (h : Heap) (size n : Nat) : Value → Option (List Value)
  | .slice (some a) _ _ =>
    if a.spot.isSome then none else
    match h.get a.block with
    | some (.cells c _ _ _) => takeN c a.off (n * size)
    | _ => none
  | .slice none _ _ => if n * size = 0 then some [] else none
  | .string s => some ((s.extract 0 n).data.toList.map fun b => .int .u8 b.toNat)
  | _ => none

def notInt : Option TypeDesc → Bool
  | some (.slice _) | some .string => true
  | _ => false

def secondOk (argTypes : Array TypeId) : Bool :=
  match argTypes[1]? with
  | none => true
  | some xt => notInt (Z.und xt)

def appendA (h : Heap) (argTypes : Array TypeId) (s x : Value) : Option (Value × Delta) := do
  let st ← argTypes[0]?
  let .slice el ← Z.und st | none
  let .slice base sLen sCap := s | none
  let i ← Z.info el
  if !secondOk Z argTypes then none else
  let n ← lenOfA x
  let new ← firstCellsA h i.size n x
  if new.length ≠ n * i.size || !new.all isCell then none else
  let need := sLen + n
  if need ≤ sCap then
    match base with
    | none => if new.isEmpty then some (.slice none need sCap, .same) else none
    | some a =>
      if new.isEmpty then some (.slice base need sCap, .same) else
      let h' ← storeCellsA Z h (a.add (sLen * i.size)) new
      some (.slice base need sCap, h')
  else
    if (2 * need + 1024) * i.bytes > 2 ^ 47 || need > 2 ^ 40 then none else
    let zero ← i.zero
    if zero.cells.size ≠ i.size || !plain 3 zero then none else
    match base with
    | none =>
      if sLen * i.size = 0 then some (.slice (some ⟨h.next, 0, none⟩) need need, .new (.cells new el (0, 0) true)) else none
    | some a =>
      if a.spot.isSome then none else
      let .cells c el' fz g ← h.get a.block | none
      let old ← takeN c a.off (sLen * i.size)
      if g then
        -- what there really is may lie in place: the elder block is forgotten
        if a.off = 0 ∧ a.block ≥ Z.N0 ∧ el' = el ∧ fz = (0, 0) ∧ sCap * i.size = c.length ∧ i.size ≠ 0 then
          some (.slice (some ⟨h.next, 0, none⟩) need need, .grow a.block (.cells (old ++ new) el (0, 0) true))
        else none
      else some (.slice (some ⟨h.next, 0, none⟩) need need, .new (.cells (old ++ new) el (0, 0) true))

def byteOf? : Value → Option UInt8
  | .int .u8 n => if 0 ≤ n ∧ n < 256 then some (UInt8.ofNat n.toNat) else none
  | _ => none

def copyA (h : Heap) (argTypes : Array TypeId) (dst src : Value) : Option (Value × Delta) := do
  let dt ← argTypes[0]?
  let .slice el ← Z.und dt | none
  let .slice base dLen _ := dst | none
  let i ← Z.info el
  let m ← lenOfA src
  let n := Nat.min m dLen
  let cells ← firstCellsA h i.size n src
  match base with
  | none => some (goInt n, .same)
  | some a =>
    if cells.isEmpty then some (goInt n, .same) else
    let h' ← storeCellsA Z h a cells
    some (goInt n, h')

/-- 'unsafe.String': the bytes of a row, which from now on may not be written. -/
def unsafeStrA (h : Heap) (argTypes : Array TypeId) (a : Addr) (n : Int) : Option (Value × Delta) := do
  if a.spot.isSome || n ≤ 0 || n > 2 ^ 40 || a.block < Z.N0 || a.off ≠ 0 then none else
  let .cells c el fz g ← h.get a.block | none
  if fz ≠ (0, 0) || g then none else
  let [pt, _] := argTypes.toList | none
  let .pointer u ← Z.und pt | none
  let i ← Z.info u
  if i.size ≠ 1 || u ≠ el then none else
  let r ← takeN c a.off n.toNat
  let bs ← r.mapM byteOf?
  some (.string ⟨bs.toArray⟩, .set a.block (.cells c el (0, n.toNat) g))

def builtinA (h : Heap) (b : Builtin) (argTypes : Array TypeId) (args : List Value) : Option Out := do
  match b, args with
  | .len, [x] =>
    let t ← argTypes[0]?
    match ← Z.und t, x with
    | .string, .string s => some (.val (goInt s.size) .same)
    | .slice _, .slice _ n _ => some (.val (goInt n) .same)
    | .array n _, _ => some (.val (goInt n) .same)
    | _, _ => none
  | .append, [s, x] => (appendA Z h argTypes s x).map fun r => .val r.1 r.2
  | .copy, [d, s] => (copyA Z h argTypes d s).map fun r => .val r.1 r.2
  | .min, [.int k x, .int k' y] => some (.val (.int k (if y < x then y else x)) .same)
  | .max, [.int k x, .int k' y] => some (.val (.int k (if y > x then y else x)) .same)
  | .recover, [] => some .recover
  | .unsafeString, [.pointer (some a), .int .i64 n] => (unsafeStrA Z h argTypes a n).map fun r => .val r.1 r.2
  | _, _ => none

def callFuncA (h : Heap) (f : FuncId) (args : List Value) : Option Out :=
  match Z.fn f with
  | some _ => some (.enter f args)
  | none =>
    match Z.ext f, args with
    | some .indexByte, [.string s, .int .u8 c] =>
      some (.val (match (List.range s.size).find? fun i => s[i]! == UInt8.ofNat c.toNat with | some i => goInt i | none => goInt (-1)) .same)
    | some .compare, [.string a, .string b] => some (.val (goInt (Extern.BytealgCompare.cmp a b)) .same)
    | _, _ => none

def callMethodA (h : Heap) (recv : Value) (name : String) (args : List Value) : Option Out := do
  let .iface t v := recv | none
  let i ← Z.info t
  let m ← i.methods.find? (·.name == name)
  if m.path.isEmpty then
    let (f, false) ← m.func | none
    let d ← Z.und t
    if d matches .pointer _ then none else
    callFuncA Z h f (v :: args)
  else none

def invokeA (h : Heap) (t : Target) (args : List Value) : Option Out := do
  match t with
  | .builtin b ts _ _ => builtinA Z h b ts args
  | .fn (.func f) cap => callFuncA Z h f (args ++ cap.toList)
  | .fn (.method name) _ => match args with | r :: rest => callMethodA Z h r name rest | [] => none
  | .fn (.methodOf t name) _ =>
    match args with
    | r :: rest =>
      match ← Z.und t with
      | .interface _ => callMethodA Z h r name rest
      | _ => callMethodA Z h (.iface t r) name rest
    | [] => none
  | .fn (.yield l) _ => some (.round l args)
  | _ => none

/-- What stands for a temporary of which nothing is known: no operation takes it. -/
def unknown : Value := .chan (some 0)
def known : Value → Bool
  | .chan (some _) => false
  | _ => true

def ev (T : Tr Value) : Operand → Value
  | .tmp t => (T.get t).getD unknown
  | .const v => v
  | .global g => .pointer (some ⟨g, 0, none⟩)
  | .func f => .func (.func f) #[] #[]

def resolveA (ρ : Operand → Value) (c : Call) (type : TypeId) : Option Deferred :=
  if !(c.args.toList.all fun x => known (ρ x)) then none else
  let args := c.args.map ρ
  match c.callee with
  | .builtin b => some { target := .builtin b c.argTypes type (c.args.map fun | .const _ => true | _ => false), args }
  | .invoke recv name => if known (ρ recv) then some { target := .fn (.method name) #[], args := #[ρ recv] ++ args } else none
  | .value f =>
    match ρ f with
    | .func fn first captured => some { target := .fn fn captured, args := first ++ args }
    | _ => none

def fillA (place : Nat → Option (Nat × Nat)) : List Value → List (Nat × Value) → Option (List Value)
  | cells, [] => some cells
  | cells, (i, v) :: rest =>
    match place i with
    | none => none
    | some (off, size) =>
      let vs := v.cells.toList
      if vs.length ≠ size || off + vs.length > cells.length then none
      else fillA place (putCells cells off vs) rest

def buildA (t : TypeId) (parts : List (Nat × Value)) : Option Value := do
  let i ← Z.info t
  let z ← i.zero
  if !plain 3 z then none
  match ← Z.und t with
  | .struct fs =>
    let cells ← fillA (fun k => (fs[k]?).bind fun f => (Z.info f.type).map fun j => (f.offset, j.size)) z.cells.toList parts
    if (fs.all fun f => (Z.info f.type).isSome) then some (.agg cells.toArray) else none
  | .array _ el =>
    let e ← Z.info el
    let cells ← fillA (fun k => some (k * e.size, e.size)) z.cells.toList parts
    some (.agg cells.toArray)
  | _ => none

/-- So many elements' zeros. -/
def zerosA (z : List Value) : Nat → List Value
  | 0 => []
  | n + 1 => z ++ zerosA z n

def buildSliceA (h : Heap) (t : TypeId) (len : Nat) (parts : List (Nat × Value)) : Option (Value × Delta) := do
  let .slice el ← Z.und t | none
  let e ← Z.info el
  let z ← e.zero
  if !plain 3 z || z.cells.size ≠ e.size || len * e.size > 2 ^ 24 then none
  let cells ← fillA (fun k => some (k * e.size, e.size)) (zerosA z.cells.toList len) parts
  some (.slice (some ⟨h.next, 0, none⟩) len len, .new (.cells cells el (0, 0) false))

def makeSliceA (h : Heap) (t : TypeId) (len cap : Value) : Option (Value × Delta) := do
  let .slice el ← Z.und t | none
  let e ← Z.info el
  let .int _ l := len | none
  let .int _ c := cap | none
  if 0 ≤ l ∧ l ≤ c ∧ c ≤ 2 ^ 30 ∧ e.bytes ≤ 2 ^ 16 then
    let z ← e.zero
    if !plain 3 z || z.cells.size ≠ e.size || e.size = 0 then none
    some (.slice (some ⟨h.next, 0, none⟩) l.toNat c.toNat, .new (.cells (zerosA z.cells.toList c.toNat) el (0, 0) false))
  else none

def doOp (ρ : Operand → Value) (h : Heap) (o : Oper) : Option Out := do
  match o.op with
  | .move x | .assign x => if known (ρ x) then some (.val (ρ x) .same) else none
  | .pick c a b => match ρ c with
    | .bool t => cond t (if known (ρ a) then some (.val (ρ a) .same) else none) (if known (ρ b) then some (.val (ρ b) .same) else none)
    | _ => none
  | .alloc el => do
    let i ← Z.info el
    let z ← i.zero
    if plain 3 z then some (.val (.pointer (some ⟨h.next, 0, none⟩)) (.new (.cells z.cells.toList el (0, 0) false))) else none
  | .box el x => if !known (ρ x) then none else some (.val (.pointer (some ⟨h.next, 0, none⟩)) (.new (.cells (ρ x).cells.toList el (0, 0) false)))
  | .build t parts => if !(parts.toList.all fun p => known (ρ p.2)) then none else (buildA Z t (parts.toList.map fun p => (p.1, ρ p.2))).map fun v => .val v .same
  | .buildSlice t len parts => if !(parts.toList.all fun p => known (ρ p.2)) then none else (buildSliceA Z h t len (parts.toList.map fun p => (p.1, ρ p.2))).map fun r => .val r.1 r.2
  | .load t a => match ρ a with | .pointer (some ad) => (loadV Z h t ad).map fun v => .val v .same | _ => none
  | .store t a x => match ρ a with | .pointer (some ad) => if !known (ρ x) then none else (storeV Z h t ad (ρ x)).map fun d => .val undef d | _ => none
  | .nilCheck x => match ρ x with
    | .pointer (some a) => some (.val (.pointer (some a)) .same)
    | .iface t v => some (.val (.iface t v) .same)
    | .func (.func f) a b => some (.val (.func (.func f) a b) .same)
    | _ => none
  | .binOp op t x y _ => (binOpA Z op t (isConst x || isConst y) (ρ x) (ρ y)).map fun v => .val v .same
  | .unOp op _ x => (pureOf (Op.unary op (ρ x))).bind fun v => if scalar (ρ x) then some (.val v .same) else none
  | .convert s d x =>
    match toBytesA Z h s d (ρ x) with
    | some r => some (.val r.1 r.2)
    | none => (convertA Z h s d (ρ x)).map fun v => .val v .same
  | .makeInterface t x => match Z.und t with | some (.interface _) => none | some _ => if !known (ρ x) then none else some (.val (.iface t (ρ x)) .same) | none => none
  | .makeFunc fn first cap => match fn with | .yield _ => none | fn => if !(first.toList.all fun x => known (ρ x)) || !(cap.toList.all fun x => known (ρ x)) then none else some (.val (.func fn (first.map ρ) (cap.map ρ)) .same)
  | .makeSlice t l c => (makeSliceA Z h t (ρ l) (ρ c)).map fun r => .val r.1 r.2
  | .slice t x lo hi mx => (sliceA Z h t (ρ x) (lo.map ρ) (hi.map ρ) (mx.map ρ)).map fun v => .val v .same
  | .fieldAddr s x f => (fieldAddrA Z s (ρ x) f).map fun v => .val v .same
  | .field t x f => (fieldA Z t (ρ x) f).map fun v => .val v .same
  | .indexAddr t x i => (indexAddrA Z t (ρ x) (ρ i)).map fun v => .val v .same
  | .index t x i => (indexA Z t (ρ x) (ρ i)).map fun v => .val v .same
  | .extract t i => match ρ t with | .tuple vs => (vs[i]?).map fun v => .val v .same | _ => none
  | .call c => do
    let d ← resolveA ρ c o.type
    invokeA Z h d.target d.args.toList
  | .defer c => (resolveA ρ c o.type).map .defer
  | .panic x => match ρ x with | .iface t v => some (.panic (.iface t v)) | _ => none
  | _ => none

/-! What code must be to be followed: what it writes lies in the frame, and its constants and variables are known. -/
def operandOk (G : Nat) : Operand → Bool
  | .const v => plain 3 v
  | .global g => Nat.blt g G
  | _ => true
def opOk (G nt : Nat) (o : Oper) : Bool := (match o.dst with | some d => Nat.blt d nt | none => true) && o.op.operands.toList.all (operandOk G)
def cOk (G nt : Nat) : Code → Bool
  | .region _ ops _ => ops.toList.all (opOk G nt)
  | .seq a b => cOk G nt a && cOk G nt b
  | .cond c a b => operandOk G c && cOk G nt a && cOk G nt b
  | .block _ c | .loop c | .scope c => cOk G nt c
  | .rangeFunc g ps a b => operandOk G g && ps.toList.all (fun p => Nat.blt p nt) && cOk G nt a && cOk G nt b
  | _ => true

structure St where
  T : Tr Value
  h : Heap
  ds : List Deferred

inductive Res where
  | ret (v : Value)
  | pan (v : Value)

/-- The three kinds of calls: a function's, a round's, a deferred one (with what the frame below panics with; and whether it has recovered). -/
structure Calls3 where
  fn : FuncId → List Value → Heap → Option (Res × Heap)
  rd : Nat → List Value → Heap → Option (Value × Heap)
  df : FuncId → List Value → Option Value → Heap → Option (Bool × Heap)

def Calls3.none : Calls3 := ⟨fun _ _ _ => .none, fun _ _ _ => .none, fun _ _ _ _ => .none⟩

structure Ctx where
  fid : FuncId
  nt : Nat
  round : Bool

inductive Ex where
  | normal
  | exit (id : Nat)
  | ret
  | panic (v : Value)

def putA (T : Tr Value) (d : Option Tmp) (v : Value) : Tr Value :=
  match d with
  | some d => T.set d (some v)
  | none => T

def putK {β : Type} (T : Tr Value) (d : Option Tmp) (v : Value) (k : Tr Value → β) : β :=
  match d with
  | some d => forceV 6 v fun v => T.setK 40 d (some v) k
  | none => k T

def Heap.app (h : Heap) : Delta → Heap
  | .same => h
  | .new o => h.new o
  | .set b o => h.set b (some o)
  | .grow b o => (h.set b none).new o

def Heap.setK {β : Type} (h : Heap) (b : Nat) (o : Option AObj) (k : Heap → β) : β := h.m.setK 40 b o fun m => k ⟨m, h.next, h.ghost⟩
def Heap.newK {β : Type} (h : Heap) (o : AObj) (k : Heap → β) : β :=
  forceObj o fun o => h.m.setK 40 h.next (some o) fun m => forceNat (h.next + 1) fun n => k ⟨m, n, h.ghost⟩
def Heap.appK {β : Type} (h : Heap) (d : Delta) (k : Heap → β) : β :=
  match d with
  | .same => k h
  | .new o => h.newK o k
  | .set b o => forceObj o fun o => h.setK b (some o) k
  | .grow b o => h.setK b none fun h => h.newK o k

def wantedA (o : Oper) (ops : Array Oper) (T : Tr Value) : Option Bool :=
  match o.guard with
  | none => some true
  | some (j, want) =>
    match (ops[j]?).bind (·.dst) with
    | none => none
    | some d => match T.get d with | some (.bool b) => some (b == want) | some _ => some false | none => none

/-- One operation, in the order of the text. -/
def step1 (C : Calls3) (rd : Bool) (ops : Array Oper) (o : Oper) (s : St) : Option (Ex × St) := do
  if !Nat.blt s.h.next 1000000000 then none else
  if ← wantedA o ops s.T then
    match ← doOp Z (ev s.T) s.h o with
    | .val v d => putK s.T o.dst v fun T => s.h.appK d fun h => some (.normal, ⟨T, h, s.ds⟩)
    | .enter f args =>
      match ← C.fn f args s.h with
      | (.ret v, h) => putK s.T o.dst v fun T => some (.normal, ⟨T, h, s.ds⟩)
      | (.pan v, h) => some (.panic v, ⟨s.T, h, s.ds⟩)
    | .round l args =>
      let (v, h) ← C.rd l args s.h
      putK s.T o.dst v fun T => some (.normal, ⟨T, h, s.ds⟩)
    | .defer d => if rd then none else putK s.T o.dst undef fun T => some (.normal, ⟨T, s.h, d :: s.ds⟩)
    | .panic v => some (.panic v, s)
    | .recover => none
  else putK s.T o.dst undef fun T => some (.normal, ⟨T, s.h, s.ds⟩)

def stepL (C : Calls3) (rd : Bool) (ops : Array Oper) : List Oper → St → Option (Ex × St)
  | [], s => some (.normal, s)
  | o :: rest, s =>
    match step1 Z C rd ops o s with
    | some (.normal, s') => stepL C rd ops rest s'
    | r => r

/-! A region that draws its order: it is followed in the order of the text, and it is checked that each other order does the same. -/
/-- 0: what memory plays no part in; 1: a load; 2: a new row; 3: all else; 5: what is not followed here. -/
def kindOf : Op → Nat
  | .move _ | .assign _ | .pick .. | .build .. | .nilCheck _ | .binOp .. | .unOp .. | .makeInterface .. | .makeFunc .. | .fieldAddr .. | .field .. | .indexAddr .. | .index .. | .extract .. => 0
  | .load .. => 1
  | .buildSlice .. => 2
  | .defer _ => 5
  | _ => 3

structure DRec where
  T : Tr Value
  h : Heap
  kind : Nat

def fwd (C : Calls3) (rd : Bool) (ops : Array Oper) : List Oper → St → Option (List DRec × St)
  | [], s => some ([], s)
  | o :: os, s =>
    match wantedA o ops s.T with
    | none => none
    | some b =>
      match step1 Z C rd ops o s with
      | some (.normal, s') =>
        cond (Nat.ble s.h.next s'.h.next && Nat.blt s'.h.next 1000000000 && s'.h.ghost.isEmpty && Nat.beq s'.ds.length s.ds.length)
          (match fwd C rd ops os s' with
          | some (rs, sf) => some (⟨s.T, s.h, cond b (kindOf o.op) 4⟩ :: rs, sf)
          | none => none) none
      | _ => none

def bitA (A : Tr Nat) (i j : Nat) : Bool := match A.get i with | some m => Nat.testBit m j | none => false
def maskOf (A : Tr Nat) (i : Nat) : List Edge → Option Nat
  | [] => some 0
  | e :: es =>
    match maskOf A i es with
    | none => none
    | some m => cond (Region.binds .any e) (cond (Nat.blt e.on i) (some (m ||| 2 ^ e.on ||| (A.get e.on).getD 0)) none) (some m)
def masks : List Oper → Nat → Tr Nat → Option (Tr Nat)
  | [], _, A => some A
  | o :: os, i, A =>
    match maskOf A i o.after.toList with
    | none => none
    | some m => masks os (i + 1) (A.set i (some m))
def writers : List Oper → Nat → Tr Nat → Option (Tr Nat)
  | [], _, W => some W
  | o :: os, i, W =>
    match o.dst with
    | none => writers os (i + 1) W
    | some d => cond (W.get d).isSome none (writers os (i + 1) (W.set d (some i)))
def isEff (k : Nat) : Bool := Nat.beq k 2 || Nat.beq k 3
def hiOf (A : Tr Nat) (i : Nat) : List Nat → Nat → Nat
  | [], m => m
  | k :: ks, m => cond (isEff k && bitA A m i) m (hiOf A i ks (m + 1))
def loOf (A : Tr Nat) (i : Nat) : List Nat → Nat → Nat
  | [], m => m
  | k :: ks, m => cond (isEff k && !bitA A i m) m (loOf A i ks (m + 1))
def lvoOf (A : Tr Nat) (ks : List Nat) (i k : Nat) : Nat := cond (isEff k) (i + 1) (hiOf A i ks 0)
def lvos (A : Tr Nat) (all : List Nat) : List Nat → Nat → List Nat
  | [], _ => []
  | k :: ks, i => forceNat (lvoOf A all i k) fun n => n :: lvos A all ks (i + 1)
def chkTmp (A W : Tr Nat) (lvo : List Nat) (i lp : Nat) (t : Tmp) : Bool :=
  match W.get t with
  | none => true
  | some j => cond (Nat.blt j i) (bitA A i j && Nat.ble (lvo.getD j 0) lp) (cond (Nat.blt i j) (bitA A j i) true)
def chkOpnd (A W : Tr Nat) (lvo : List Nat) (i lp : Nat) : Operand → Bool
  | .tmp t => chkTmp A W lvo i lp t
  | _ => true
def chkGuard (A W : Tr Nat) (lvo : List Nat) (i lp : Nat) (ops : Array Oper) (o : Oper) : Bool :=
  match o.guard with
  | none => true
  | some (j, _) => match (ops[j]?).bind (·.dst) with | some d => chkTmp A W lvo i lp d | none => true

def sameV : Nat → Value → Value → Bool
  | 0, _, _ => false
  | n + 1, a, b =>
    match a, b with
    | .bool x, .bool y => x == y
    | .int k x, .int k' y => decide (k = k') && decide (x = y)
    | .string x, .string y => decide (x.data.toList = y.data.toList)
    | .pointer none, .pointer none => true
    | .pointer (some x), .pointer (some y) => Nat.beq x.block y.block && Nat.beq x.off y.off && x.spot.isNone && y.spot.isNone
    | .slice none l c, .slice none l' c' => Nat.beq l l' && Nat.beq c c'
    | .slice (some x) l c, .slice (some y) l' c' => Nat.beq x.block y.block && Nat.beq x.off y.off && x.spot.isNone && y.spot.isNone && Nat.beq l l' && Nat.beq c c'
    | .nilIface, .nilIface => true
    | .iface t x, .iface t' y => Nat.beq t t' && sameV n x y
    | .agg x, .agg y => Nat.beq x.size y.size && (x.toList.zip y.toList).all fun p => sameV n p.1 p.2
    | _, _ => false

def chkLoad (hs : List Heap) (lo hi : Nat) (r : DRec) : Op → Bool
  | .load t x =>
    match ev r.T x with
    | .pointer (some ad) =>
      match loadV Z r.h t ad with
      | some v => ((hs.drop lo).take (hi + 1 - lo)).all fun h => match loadV Z h t ad with | some v' => sameV 6 v' v | none => false
      | none => false
    | _ => false
  | _ => false
def chkOp (A W : Tr Nat) (ks lvo : List Nat) (hs : List Heap) (ops : Array Oper) (i : Nat) (o : Oper) (r : DRec) : Bool :=
  forceNat (hiOf A i ks 0) fun hi =>
  forceNat (loOf A i ks 0) fun lo =>
  forceNat (cond (isEff r.kind) i hi) fun lp =>
  o.op.operands.toList.all (chkOpnd A W lvo i lp) && chkGuard A W lvo i lp ops o &&
    cond (Nat.beq r.kind 1) (chkLoad Z hs lo hi r o.op) (cond (Nat.beq r.kind 3) (Nat.ble i lo) (!Nat.beq r.kind 5))
def chkAll (A W : Tr Nat) (ks lvo : List Nat) (hs : List Heap) (ops : Array Oper) : List Oper → List DRec → Nat → Bool
  | o :: os, r :: rs, i => chkOp Z A W ks lvo hs ops i o r && chkAll A W ks lvo hs ops os rs (i + 1)
  | _, _, _ => true

def stepD (C : Calls3) (rd : Bool) (ops : Array Oper) (s : St) : Option (Ex × St) :=
  cond (Nat.blt ops.size 1000 && s.h.ghost.isEmpty && Nat.blt s.h.next 1000000000)
    (match masks ops.toList 0 .e, writers ops.toList 0 .e, fwd Z C rd ops ops.toList s with
    | some A, some W, some (rs, sf) =>
      cond (chkAll Z A W (rs.map (·.kind)) (lvos A (rs.map (·.kind)) (rs.map (·.kind)) 0) (rs.map (·.h) ++ [sf.h]) ops ops.toList rs 0) (some (.normal, sf)) none
    | _, _, _ => none) none

def iter (f : St → Option (Ex × St)) : Nat → St → Option (Ex × St)
  | 0, _ => none
  | n + 1, s =>
    match f s with
    | some (.normal, s') => iter f n s'
    | r => r

def run (fuel : Nat) (C : Calls3) (x : Ctx) : Code → St → Option (Ex × St)
  | .skip, s | .label _, s => some (.normal, s)
  | .region _ ops draw, s => cond draw (stepD Z C x.round ops s) (stepL Z C x.round ops ops.toList s)
  | .seq a b, s =>
    match run fuel C x a s with
    | some (.normal, s') => run fuel C x b s'
    | r => r
  | .cond c a b, s =>
    match ev s.T c with
    | .bool t => cond t (run fuel C x a s) (run fuel C x b s)
    | _ => none
  | .block id c, s =>
    match run fuel C x c s with
    | some (.exit i, s') => if i = id then some (.normal, s') else some (.exit i, s')
    | r => r
  | .loop c, s => iter (run fuel C x c) fuel s
  | .scope c, s => run fuel C x c s
  | .exit id, s => some (.exit id, s)
  | .ret, s => some (.ret, s)
  | .rangeFunc g ps assign body, s => do
    if x.round || !Nat.blt s.h.next 1000000000 then none else
    let .func (.func f) first cap := ev s.T g | none
    if (Z.fn f).isNone then none
    s.h.newK (.deferred (some [])) fun h1 => h1.newK (.loop .ready none x.fid s.T x.nt ps assign body s.h.next) fun h2 => do
    let ds2 : List Deferred := { target := .collected s.h.next, args := #[] } :: s.ds
    match ← C.fn f (first.toList ++ [.func (.yield h1.next) #[] #[]] ++ cap.toList) h2 with
    | (.pan v, h) => some (.panic v, ⟨s.T, h, ds2⟩)
    | (.ret _, h) =>
      let .loop st pend fid T nt ps a b d ← h.get h1.next | none
      if st = .busy then none
      h.setK h1.next (some (.loop .exhausted pend fid T nt ps a b d)) fun h' =>
      match pend with
      | none => some (.normal, ⟨s.T, h', ds2⟩)
      | some .ret => some (.ret, ⟨s.T, h', ds2⟩)
      | some (.exit id) => some (.exit id, ⟨s.T, h', ds2⟩)
      | some _ => none
  | _, _ => none

def resultOf (h : Heap) (T : Tr Value) : ResultVar → Option Value
  | .tmp t => T.get t
  | .cell a t => match T.get a with | some (.pointer (some ad)) => loadV Z h t ad | _ => none

def resultsOf (h : Heap) (T : Tr Value) (rs : List ResultVar) : Option Value :=
  match rs with
  | [r] => resultOf Z h T r
  | rs => (rs.mapM (resultOf Z h T)).map fun vs => .tuple vs.toArray

/-- How a frame leaves: its deferred calls, and then its results, or its panic. -/
def leave (C : Calls3) (fn : Func) (T : Tr Value) : List Deferred → Option Value → Heap → Option (Res × Heap)
  | [], none, h => (resultsOf Z h T fn.results.toList).map fun v => (.ret v, h)
  | [], some v, h => some (.pan v, h)
  | d :: ds, m, h =>
    match d.target with
    | .collected r =>
      if !Nat.ble Z.N0 r then none else
      match h.get r with
      | some (.deferred (some [])) => h.setK r (some (.deferred none)) fun h => leave C fn T ds m h
      | _ => none
    | .fn (.func f) cap =>
      if (Z.fn f).isNone then none else
      match C.df f (d.args.toList ++ cap.toList) m h with
      | some (rec, h') => leave C fn T ds (cond rec none m) h'
      | none => none
    | _ => none

/-- The body of a deferred function: where it recovers, step by step. -/
def stepS (ops : Array Oper) : List Oper → St → Option Value → Bool → Option (St × Bool)
  | [], s, _, rec => some (s, rec)
  | o :: rest, s, m, rec => do
    if !Nat.blt s.h.next 1000000000 then none else
    if ← wantedA o ops s.T then
      match ← doOp Z (ev s.T) s.h o with
      | .val v d => putK s.T o.dst v fun T => s.h.appK d fun h => stepS ops rest ⟨T, h, s.ds⟩ m rec
      | .recover =>
        match m, rec with
        | some v, false => putK s.T o.dst v fun T => stepS ops rest ⟨T, s.h, s.ds⟩ m true
        | _, _ => putK s.T o.dst .nilIface fun T => stepS ops rest ⟨T, s.h, s.ds⟩ m rec
      | _ => none
    else putK s.T o.dst undef fun T => stepS ops rest ⟨T, s.h, s.ds⟩ m rec

def hasRec (ops : Array Oper) : Bool := ops.any fun o => match o.op with | .call { callee := .builtin .recover, .. } => true | _ => false

def runS (fuel : Nat) (C : Calls3) (x : Ctx) (m : Option Value) : Code → St → Bool → Option (Ex × St × Bool)
  | .region id ops draw, s, rec =>
    if hasRec ops then (if draw then none else (stepS Z ops ops.toList s m rec).map fun r => (.normal, r.1, r.2))
    else (run Z fuel C x (.region id ops draw) s).map fun r => (r.1, r.2, rec)
  | .seq a b, s, rec =>
    match runS fuel C x m a s rec with
    | some (.normal, s', r') => runS fuel C x m b s' r'
    | r => r
  | .cond c a b, s, rec =>
    match ev s.T c with
    | .bool t => cond t (runS fuel C x m a s rec) (runS fuel C x m b s rec)
    | _ => none
  | c, s, rec => (run Z fuel C x c s).map fun r => (r.1, r.2, rec)

def setAllK {β : Type} : Tr Value → List Tmp → List Value → (Tr Value → β) → β
  | T, t :: ts, v :: vs, k => putK T (some t) v fun T => setAllK T ts vs k
  | T, _, _, k => k T

def enterK {β : Type} : List Value → Nat → Tr Value → (Tr Value → β) → β
  | [], _, T, k => k T
  | v :: vs, i, T, k => putK T (some i) v fun T => enterK vs (i + 1) T k

def calls (loopFuel : Nat) : Nat → Calls3
  | 0 => Calls3.none
  | n + 1 =>
    let C := calls loopFuel n
    { fn := fun f args h => do
        let fn ← Z.fn f
        let c ← fn.body
        if fn.ntmps < args.length then none
        let (e, s) ← enterK args 0 .e fun T => run Z loopFuel C ⟨f, fn.ntmps, false⟩ c ⟨T, h, []⟩
        match e with
        | .normal | .ret => leave Z C fn s.T s.ds none s.h
        | .panic v => leave Z C fn s.T s.ds (some v) s.h
        | .exit _ => none
      rd := fun l args h => do
        if !Nat.ble Z.N0 l then none
        let .loop _ _ fid T nt ps assign body _ ← h.get l | none
        if args.length ≠ ps.size then none
        let (.normal, s) ← setAllK T ps.toList args fun T' => run Z loopFuel C ⟨fid, nt, true⟩ assign ⟨T', h, []⟩ | none
        let .loop .ready pend fid2 T2 nt2 ps2 a2 b2 d2 ← s.h.get l | none
        let (e, s2) ← s.h.setK l (some (.loop .busy pend fid2 T2 nt2 ps2 a2 b2 d2)) fun h => run Z loopFuel C ⟨fid, nt, true⟩ body ⟨s.T, h, s.ds⟩
        let .loop _ _ fid3 T3 nt3 ps3 a3 b3 d3 ← s2.h.get l | none
        match e with
        | .normal => s2.h.setK l (some (.loop .ready none fid3 T3 nt3 ps3 a3 b3 d3)) fun h => some (.bool true, h)
        | .ret => s2.h.setK l (some (.loop .done (some .ret) fid3 T3 nt3 ps3 a3 b3 d3)) fun h => some (.bool false, h)
        | .exit id => s2.h.setK l (some (.loop .done (some (.exit id)) fid3 T3 nt3 ps3 a3 b3 d3)) fun h => some (.bool false, h)
        | .panic _ => none
      df := fun f args m h => do
        let fn ← Z.fn f
        let c ← fn.body
        if fn.ntmps < args.length then none
        let (e, s, rec) ← enterK args 0 .e fun T => runS Z loopFuel C ⟨f, fn.ntmps, false⟩ m c ⟨T, h, []⟩ false
        match e, s.ds with
        | .normal, [] | .ret, [] => (resultsOf Z s.h s.T fn.results.toList).map fun _ => (rec, s.h)
        | _, _ => none }
end Go.Eng
