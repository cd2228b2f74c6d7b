/- A closed run of the translated program as a function that the kernel evaluates, and what each operation does: the evaluator. -/
import Derived.OrdersIn
import Derived.Laws.Sem
import Derived.Laws.World
import Derived.Laws.Cells
import Derived.Below
import Derived.Laws.Entries
import Derived.IntWalk
import Derived.Lib.UnsafeStr
set_option linter.all false
noncomputable section
namespace Go.Eng

/-- A map by numbers: 0 at the root, odd numbers to the left, even ones to the right. -/
inductive Tr (α : Type) where
  | e
  | n (v : Option α) (l r : Tr α)

namespace Tr
variable {α : Type}
noncomputable def get (t : Tr α) : Nat → Option α := Tr.rec (motive := fun _ => Nat → Option α) (fun _ => none) (fun v _ _ gl gr k => Bool.rec (motive := fun _ => Option α) (Bool.rec (motive := fun _ => Option α) (gr (Nat.sub (Nat.div k 2) 1)) (gl (Nat.div k 2)) (Nat.beq (Nat.mod k 2) 1)) v (Nat.beq k 0)) t
theorem get_n' (v : Option α) (l r : Tr α) (k : Nat) : (Tr.n v l r).get k = cond (Nat.beq k 0) v (cond (Nat.beq (k % 2) 1) (l.get (k / 2)) (r.get (k / 2 - 1))) := by
  show Bool.rec (motive := fun _ => Option α) (Bool.rec (motive := fun _ => Option α) (r.get (k / 2 - 1)) (l.get (k / 2)) (Nat.beq (k % 2) 1)) v (Nat.beq k 0) = _
  cases Nat.beq k 0 <;> cases Nat.beq (k % 2) 1 <;> rfl
theorem get_e (k : Nat) : (Tr.e : Tr α).get k = none := rfl
def val : Tr α → Option α | .e => none | .n v _ _ => v
def lft : Tr α → Tr α | .e => .e | .n _ l _ => l
def rgt : Tr α → Tr α | .e => .e | .n _ _ r => r
/-- Sets the place k to x, and hands the new map on (put together before it is handed on). -/
noncomputable def setGo {β : Type} (ih : Tr α → Nat → Option α → (Tr α → β) → β) (k : Nat) (x : Option α) (c : Tr α → β) (v : Option α) (l r : Tr α) : β :=
  Bool.rec (motive := fun _ => β) (Bool.rec (motive := fun _ => β) (ih r (Nat.sub (Nat.div k 2) 1) x fun r => c (.n v l r)) (ih l (Nat.div k 2) x fun l => c (.n v l r)) (Nat.beq (Nat.mod k 2) 1)) (c (.n x l r)) (Nat.beq k 0)
noncomputable def setK {β : Type} (f : Nat) : Tr α → Nat → Option α → (Tr α → β) → β :=
  Nat.rec (motive := fun _ => Tr α → Nat → Option α → (Tr α → β) → β) (fun t _ _ c => c t)
    (fun _ ih t k x c => Tr.rec (motive := fun _ => β) (setGo ih k x c none .e .e) (fun v l r _ _ => setGo ih k x c v l r) t) f
theorem setGo_eq {β : Type} (ih : Tr α → Nat → Option α → (Tr α → β) → β) (k : Nat) (x : Option α) (c : Tr α → β) (v : Option α) (l r : Tr α) :
    setGo ih k x c v l r = cond (Nat.beq k 0) (c (.n x l r)) (cond (Nat.beq (k % 2) 1) (ih l (k / 2) x fun l => c (.n v l r)) (ih r (k / 2 - 1) x fun r => c (.n v l r))) := by
  show Bool.rec (motive := fun _ => β) (Bool.rec (motive := fun _ => β) (ih r (k / 2 - 1) x fun r => c (.n v l r)) (ih l (k / 2) x fun l => c (.n v l r)) (Nat.beq (k % 2) 1)) (c (.n x l r)) (Nat.beq k 0) = _
  cases Nat.beq k 0 <;> cases Nat.beq (k % 2) 1 <;> rfl
theorem setK_succ {β : Type} (f : Nat) (t : Tr α) (k : Nat) (x : Option α) (c : Tr α → β) : setK (f + 1) t k x c = cond (Nat.beq k 0) (c (.n x t.lft t.rgt))
    (cond (Nat.beq (k % 2) 1) (setK f t.lft (k / 2) x fun l => c (.n t.val l t.rgt)) (setK f t.rgt (k / 2 - 1) x fun r => c (.n t.val t.lft r))) := by
  have e : setK (f + 1) t k x c = setGo (setK f) k x c t.val t.lft t.rgt := by cases t <;> rfl
  rw [e, setGo_eq]
theorem setK_zero {β : Type} (t : Tr α) (k : Nat) (x : Option α) (c : Tr α → β) : setK 0 t k x c = c t := rfl
def set (t : Tr α) (k : Nat) (x : Option α) : Tr α := setK 40 t k x id
def ofList (l : List α) : Tr α := go l 0 .e
where go : List α → Nat → Tr α → Tr α
  | [], _, t => t
  | x :: l, k, t => setK 40 t k (some x) (go l (k + 1))
end Tr

/-! What is put together before it is handed on. -/
def forceNat {β : Type} (n : Nat) (k : Nat → β) : β :=
  match n with
  | 0 => k 0
  | m + 1 => k (m + 1)
def forceInt {β : Type} (n : Int) (k : Int → β) : β :=
  match n with
  | .ofNat m => forceNat m fun m => k (.ofNat m)
  | .negSucc m => forceNat m fun m => k (.negSucc m)
def forceAddr {β : Type} (a : Addr) (k : Addr → β) : β := forceNat a.block fun b => forceNat a.off fun o => k ⟨b, o, a.spot⟩
def forceList {α β : Type} (f : α → (α → β) → β) : Nat → List α → (List α → β) → β
  | 0, l, k => k l
  | _ + 1, [], k => k []
  | n + 1, x :: l, k => f x fun x => forceList f n l fun l => k (x :: l)
def forceV {β : Type} : Nat → Value → (Value → β) → β
  | 0, v, k => k v
  | n + 1, v, k =>
    match v with
    | .bool b => cond b (k (.bool true)) (k (.bool false))
    | .int i x => forceInt x fun x => k (.int i x)
    | .pointer (some a) => forceAddr a fun a => k (.pointer (some a))
    | .slice (some a) l c => forceAddr a fun a => forceNat l fun l => forceNat c fun c => k (.slice (some a) l c)
    | .slice none l c => forceNat l fun l => forceNat c fun c => k (.slice none l c)
    | .string s => forceList (fun x k => k x) 40 s.data.toList fun l => k (.string ⟨⟨l⟩⟩)
    | .iface t x => forceV n x fun x => k (.iface t x)
    | .agg cs => forceList (forceV n) 40 cs.toList fun l => k (.agg ⟨l⟩)
    | .tuple cs => forceList (forceV n) 40 cs.toList fun l => k (.tuple ⟨l⟩)
    | .func fn a b => forceList (forceV n) 10 a.toList fun a => forceList (forceV n) 10 b.toList fun b => k (.func fn ⟨a⟩ ⟨b⟩)
    | v => k v

/-- A block as it is followed: a row of cells (grown: what it really has may be longer), a loop over a function, the block of its deferred calls. -/
inductive AObj where
  | cells (c : List Value) (el : TypeId) (fz : Nat × Nat) (grown : Bool)
  | loop (state : LoopState) (pending : Option Code) (fid : FuncId) (T : Tr Value) (nt : Nat) (params : Array Tmp) (assign body : Code) (defers : Nat)
  | deferred (d : Option (List Deferred))
  | map (es : List MapEntry) (clock : Nat)

/-- The blocks that are followed, the next number, and numbers that nothing which is followed now speaks of. -/
structure Heap where
  m : Tr AObj
  next : Nat
  ghost : List Nat := []

def Heap.get (h : Heap) (b : Nat) : Option AObj := h.m.get b
def Heap.set (h : Heap) (b : Nat) (o : Option AObj) : Heap := { h with m := h.m.set b o }
def Heap.new (h : Heap) (o : AObj) : Heap := { h with m := h.m.set h.next (some o), next := h.next + 1 }
def forceME {β : Type} (x : MapEntry) (k : MapEntry → β) : β := forceV 4 x.key fun a => forceV 4 x.val fun b => forceNat x.born fun c => k ⟨a, b, c⟩
/-- A row in which others' places have been written: its cells are put together already. -/
def forceRow {β : Type} (o : AObj) (k : AObj → β) : β :=
  match o with
  | .cells c el fz g => forceList (fun x k => k x) 1000 c fun c => k (.cells c el fz g)
  | .map es cl => forceList forceME 100 es fun es => forceNat cl fun cl => k (.map es cl)
  | o => k o
def forceObj {β : Type} (o : AObj) (k : AObj → β) : β :=
  match o with
  | .cells c el fz g => forceList (forceV 4) 100 c fun c => k (.cells c el fz g)
  | .map es cl => forceList forceME 100 es fun es => forceNat cl fun cl => k (.map es cl)
  | o => k o
inductive Ext where
  | indexByte | compare
  deriving DecidableEq

/-- What the evaluator asks of the program. -/
structure Tab where
  info : Nat → Option TypeInfo
  und : Nat → Option TypeDesc
  fn : Nat → Option Func
  ext : Nat → Option Ext
  N0 : Nat
  eqOk : Nat → Bool := fun _ => false

/-- What an operation does to the heap: nothing; a new block; a block is another one; a block is forgotten, and a new one is there. -/
inductive Delta where
  | same
  | new (o : AObj)
  | set (b : Nat) (o : AObj)
  | grow (b : Nat) (o : AObj)

inductive Out where
  | val (v : Value) (d : Delta)
  | enter (f : FuncId) (args : List Value)
  | round (l : Nat) (args : List Value)
  | defer (d : Deferred)
  | recover
  | panic (v : Value)

def isCell : Value → Bool | .agg _ => false | .tuple _ => false | _ => true
def isAggD : TypeDesc → Bool | .struct _ => true | .array _ _ => true | _ => false

/-- Is a value free of places in memory? -/
def plain : Nat → Value → Bool
  | _, .bool _ | _, .int _ _ | _, .float _ _ | _, .complex _ _ _ | _, .string _ | _, .pointer none | _, .slice none _ _ | _, .map none | _, .chan none | _, .nilFunc | _, .nilIface => true
  | 0, _ => false
  | n + 1, .func (.yield _) _ _ => false
  | n + 1, .func _ a b => a.toList.all (plain n) && b.toList.all (plain n)
  | n + 1, .iface _ v => plain n v
  | n + 1, .agg cs => cs.toList.all (plain n)
  | n + 1, .tuple cs => cs.toList.all (plain n)
  | _, _ => false

variable (Z : Tab)

def takeN (l : List Value) (off n : Nat) : Option (List Value) :=
  let r := (l.drop off).take n
  if r.length = n then some r else none

def loadV (h : Heap) (t : TypeId) (a : Addr) : Option Value := do
  if a.spot.isSome then none
  let .cells c _ _ _ ← h.get a.block | none
  let d ← Z.und t
  if isAggD d then
    let i ← Z.info t
    let r ← takeN c a.off i.size
    some (.agg r.toArray)
  else c[a.off]?

def putCells : List Value → Nat → List Value → List Value
  | c, _, [] => c
  | c, i, v :: vs => putCells (c.set i v) (i + 1) vs

def storeCellsA (h : Heap) (a : Addr) (vs : List Value) : Option Delta := do
  if a.spot.isSome then none
  if a.block < Z.N0 then none
  let .cells c el fz g ← h.get a.block | none
  if a.off + vs.length ≤ c.length && vs.all isCell && (fz.2 ≤ a.off || a.off + vs.length ≤ fz.1) then
    some (.set a.block (.cells (putCells c a.off vs) el fz g))
  else none

def storeV (h : Heap) (t : TypeId) (a : Addr) (v : Value) : Option Delta := do
  let i ← Z.info t
  let vs := v.cells.toList
  if vs.length = i.size then storeCellsA Z h a vs else none

def intOf? : Value → Option Int | .int _ n => some n | _ => none

/-- The slice (low, high) of so many. -/
def bound (x : Option Value) (d y : Nat) : Option Nat :=
  match x with
  | none => some d
  | some (.int _ i) => if 0 ≤ i ∧ i ≤ y then some i.toNat else none
  | some _ => none

/-- A slice with three bounds, of a row of which all is known. -/
def slice3A (h : Heap) (t : TypeId) (x : Value) (lo hi mx : Option Value) : Option Value := do
  let .slice el ← Z.und t | none
  let .slice (some ad) _ cap := x | none
  let .cells _ _ _ g ← h.get ad.block | none
  if g then none else
  let i ← Z.info el
  let .some mv := mx | none
  let .some hv := hi | none
  let m ← bound (some mv) 0 cap
  let hh ← bound (some hv) 0 m
  let l ← bound lo 0 hh
  some (.slice (some (if m = l then ad else ad.add (l * i.size))) (hh - l) (m - l))

def sliceA (h : Heap) (t : TypeId) (x : Value) (lo hi mx : Option Value) : Option Value := do
  if mx.isSome then none
  match ← Z.und t, x with
  | .string, .string s => do
    let hh ← bound hi s.size s.size
    let l ← bound lo 0 hh
    some (.string (s.extract l hh))
  | .slice el, .slice a len cap => do
    let hh ← bound hi len cap
    let l ← bound lo 0 hh
    let i ← Z.info el
    match a with
    | none => some (.slice none (hh - l) (cap - l))
    | some ad =>
      let .cells _ _ _ g ← h.get ad.block | none
      if g then (if l = 0 then some (.slice (some ad) (hh - l) (cap - l)) else if l < cap then some (.slice (some (ad.add (l * i.size))) (hh - l) (cap - l)) else none)
      else some (.slice (some (if cap = l then ad else ad.add (l * i.size))) (hh - l) (cap - l))
  | .array n el, .pointer (some ad) => do
    let hh ← bound hi n n
    let l ← bound lo 0 hh
    let i ← Z.info el
    let .cells _ _ _ g ← h.get ad.block | none
    if g then none else some (.slice (some (if n = l then ad else ad.add (l * i.size))) (hh - l) (n - l))
  | _, _ => none

def indexAddrA (t : TypeId) (x ix : Value) : Option Value := do
  let .int _ i := ix | none
  match ← Z.und t, x with
  | .array n el, .pointer (some a) => do
    let e ← Z.info el
    if 0 ≤ i ∧ i < n then some (.pointer (some (a.add (i.toNat * e.size)))) else none
  | .slice el, .slice (some a) n _ => do
    let e ← Z.info el
    if 0 ≤ i ∧ i < n then some (.pointer (some (a.add (i.toNat * e.size)))) else none
  | _, _ => none

def partA (t : TypeId) (cs : Array Value) (off : Nat) : Option Value := do
  let d ← Z.und t
  if isAggD d then
    let i ← Z.info t
    some (.agg (cs.extract off (off + i.size)))
  else cs[off]?

def indexA (t : TypeId) (x ix : Value) : Option Value := do
  let .int _ i := ix | none
  match ← Z.und t, x with
  | .array n el, .agg cs => do
    let e ← Z.info el
    if 0 ≤ i ∧ i < n then partA Z el cs (i.toNat * e.size) else none
  | .string, .string s => if 0 ≤ i then (s[i.toNat]?).map fun b => .int .u8 b.toNat else none
  | _, _ => none

def fieldAddrA (t : TypeId) (x : Value) (f : Nat) : Option Value := do
  let .struct fs ← Z.und t | none
  let fl ← fs[f]?
  let i ← Z.info fl.type
  let .pointer (some a) := x | none
  if i.size = 0 then none else some (.pointer (some (a.add fl.offset)))

def fieldA (t : TypeId) (x : Value) (f : Nat) : Option Value := do
  let .struct fs ← Z.und t | none
  let fl ← fs[f]?
  let .agg cs := x | none
  partA Z fl.type cs fl.offset

/-- What stands for a temporary of which nothing is known: no operation takes it. -/
def unknown : Value := .chan (some 0)
def known : Value → Bool
  | .chan (some _) => false
  | _ => true

/-! Values that are compared. -/
def eqFieldsA (f : TypeId → Value → Value → Option Bool) (xs ys : Array Value) : List Field → Option Bool
  | [] => some true
  | fl :: fs =>
    if fl.name = "_" then eqFieldsA f xs ys fs else
    match partA Z fl.type xs fl.offset, partA Z fl.type ys fl.offset with
    | some a, some b =>
      match f fl.type a b with
      | some true => eqFieldsA f xs ys fs
      | some false => some false
      | none => none
    | _, _ => none
def eqElemsA (f : Value → Value → Option Bool) (el : TypeId) (size : Nat) (xs ys : Array Value) : Nat → Nat → Option Bool
  | _, 0 => some true
  | i, n + 1 =>
    match partA Z el xs (i * size), partA Z el ys (i * size) with
    | some a, some b =>
      match f a b with
      | some true => eqElemsA f el size xs ys (i + 1) n
      | some false => some false
      | none => none
    | _, _ => none
def eqV : Nat → TypeId → Value → Value → Option Bool
  | 0, _, _, _ => none
  | n + 1, t, x, y =>
    match Z.und t, x, y with
    | some .bool, .bool a, .bool b => some (a == b)
    | some (.int _), .int k a, .int k' b => if k = k' then some (a == b) else none
    | some .string, .string a, .string b => some (a == b)
    | some (.pointer _), .pointer none, .pointer b => some b.isNone
    | some (.pointer _), .pointer (some _), .pointer none => some false
    | some (.slice _), .slice none _ _, .slice b _ _ => some b.isNone
    | some (.slice _), .slice (some _) _ _, .slice none _ _ => some false
    | some (.map _ _), .map none, .map b => some b.isNone
    | some (.map _ _), .map (some _), .map none => some false
    | some (.func _ _ _), .nilFunc, .nilFunc => some true
    | some (.func _ _ _), .nilFunc, .func _ _ _ => some false
    | some (.func _ _ _), .func _ _ _, .nilFunc => some false
    | some (.interface _), .nilIface, .nilIface => some true
    | some (.interface _), .nilIface, .iface _ _ => some false
    | some (.interface _), .iface _ _, .nilIface => some false
    | some (.interface _), .iface tx vx, .iface ty vy =>
      if tx ≠ ty then some false else
      match Z.info tx with
      | some i => if i.comparable then eqV n tx vx vy else none
      | none => none
    | some (.struct fs), .agg xs, .agg ys => if Z.eqOk t then eqFieldsA Z (eqV n) xs ys fs.toList else none
    | some (.array len el), .agg xs, .agg ys =>
      match Z.info el with
      | some i => eqElemsA Z (eqV n el) el i.size xs ys 0 len
      | none => none
    | _, _, _ => none

def scalar : Value → Bool
  | .bool _ | .int _ _ | .string _ => true
  | _ => false

/-- A computation that asks memory for nothing, and answers a number, a truth value or a string. -/
def pureOf : Sem Value → Option Value
  | .pure a => cond (scalar a) (some a) none
  | _ => none

def isNum : Value → Bool
  | .bool _ => false
  | _ => true

def isConst : Operand → Bool
  | .const _ => true
  | _ => false

def isDiv : BinOp → Bool
  | .quo | .rem | .shl | .shr => true
  | _ => false

/-- Divisions and shifts, where they do not panic. -/
def divA (op : BinOp) (k : IntKind) (a : Int) (k' : IntKind) (b : Int) : Option Value :=
  match op with
  | .quo => if k = k' ∧ b ≠ 0 then pureOf (Op.intDiv .quo k a b) else none
  | .rem => if k = k' ∧ b ≠ 0 then pureOf (Op.intDiv .rem k a b) else none
  | .shl => if 0 ≤ b then pureOf (Op.shift .shl k a k' b) else none
  | .shr => if 0 ≤ b then pureOf (Op.shift .shr k a k' b) else none
  | _ => none

/-- What 'the same' says of a test for equality, or for the contrary. -/
def eqlA (op : BinOp) (b : Bool) : Option Value :=
  match op with
  | .eql => some (.bool b)
  | .neq => some (.bool (!b))
  | _ => none

def isIfaceD : Option TypeDesc → Bool
  | some (.interface _) => true
  | _ => false
def isBoolD : Option TypeDesc → Bool
  | some .bool => true
  | _ => false

def binOpA (op : BinOp) (t : TypeId) (lit : Bool) (x y : Value) : Option Value :=
  if scalar x && scalar y && !isDiv op && isNum x then pureOf (binOp op t x y)
  else match x, y with
  | .int k a, .int k' b => divA op k a k' b
  | .bool a, .bool b => if isBoolD (Z.und t) then eqlA op (a == b) else none
  | .nilIface, .nilIface => if lit && isIfaceD (Z.und t) then eqlA op true else none
  | .iface tx vx, .iface ty vy => (eqV Z 6 t (.iface tx vx) (.iface ty vy)).bind (eqlA op)
  | .iface _ _, .nilIface => if isIfaceD (Z.und t) then eqlA op false else none
  | .nilIface, .iface _ _ => if isIfaceD (Z.und t) then eqlA op false else none
  | .pointer a, .pointer b => (eqV Z 6 t (.pointer a) (.pointer b)).bind (eqlA op)
  | .slice a l c, .slice a' l' c' => (eqV Z 6 t (.slice a l c) (.slice a' l' c')).bind (eqlA op)
  | .map a, .map b => (eqV Z 6 t (.map a) (.map b)).bind (eqlA op)
  | .nilFunc, y => if known y then (eqV Z 6 t .nilFunc y).bind (eqlA op) else none
  | .func f a b, y => if known y then (eqV Z 6 t (.func f a b) y).bind (eqlA op) else none
  | .agg xs, .agg ys => if Z.eqOk t then (eqV Z 6 t (.agg xs) (.agg ys)).bind (eqlA op) else none
  | _, _ => none

def convertA (h : Heap) (src dst : TypeId) (x : Value) : Option Value := do
  match ← Z.und src, ← Z.und dst, x with
  | _, .int k, .int _ n => pureOf (Conv.intToInt k n)
  | _, .string, .int _ n => pureOf (Conv.intToString n)
  | _, .string, .string s => some (.string s)
  | .slice e, .string, .slice a len _ =>
    match ← Z.und e with
    | .int .u8 =>
      match a with
      | none => some (.string .empty)
      | some ad =>
        if ad.spot.isSome then none else
        let .cells c _ _ _ ← h.get ad.block | none
        let r ← takeN c ad.off len
        let bs ← r.mapM fun | .int .u8 n => some (UInt8.ofNat n.toNat) | _ => none
        some (.string ⟨bs.toArray⟩)
    | _ => none
  | _, _, _ => none

/-- '[]byte(s)': what is behind its bytes is not known. -/
def toBytesA (h : Heap) (src dst : TypeId) (x : Value) : Option (Value × Delta) := do
  let .string s := x | none
  let .string ← Z.und src | none
  let .slice e ← Z.und dst | none
  let .int .u8 ← Z.und e | none
  let i ← Z.info e
  if i.size ≠ 1 then none
  some (.slice (some ⟨h.next, 0, none⟩) s.size s.size, .new (.cells (s.data.toList.map fun b => .int .u8 b.toNat) e (s.size, s.size + 1) true))

def lenOfA : Value → Option Nat
  | .slice _ n _ => some n
  | .string s => some s.size
  | _ => none

def firstCellsA (h : Heap) (size n : Nat) : Value → Option (List Value)
  | .slice (some a) _ _ =>
    if a.spot.isSome then none else
    match h.get a.block with
    | some (.cells c _ _ _) => takeN c a.off (n * size)
    | _ => none
  | .slice none _ _ => if n * size = 0 then some [] else none
  | .string s => some ((s.extract 0 n).data.toList.map fun b => .int .u8 b.toNat)
  | _ => none

def notInt : Option TypeDesc → Bool
  | some (.slice _) | some .string => true
  | _ => false

def secondOk (argTypes : Array TypeId) : Bool :=
  match argTypes[1]? with
  | none => true
  | some xt => notInt (Z.und xt)

def appendA (h : Heap) (argTypes : Array TypeId) (s x : Value) : Option (Value × Delta) := do
  let st ← argTypes[0]?
  let .slice el ← Z.und st | none
  let .slice base sLen sCap := s | none
  let i ← Z.info el
  if !secondOk Z argTypes then none else
  let n ← lenOfA x
  let new ← firstCellsA h i.size n x
  if new.length ≠ n * i.size || !new.all isCell then none else
  let need := sLen + n
  if need ≤ sCap then
    match base with
    | none => if new.isEmpty then some (.slice none need sCap, .same) else none
    | some a =>
      if new.isEmpty then some (.slice base need sCap, .same) else
      let h' ← storeCellsA Z h (a.add (sLen * i.size)) new
      some (.slice base need sCap, h')
  else
    if (2 * need + 1024) * i.bytes > 2 ^ 47 || need > 2 ^ 40 then none else
    let zero ← i.zero
    if zero.cells.size ≠ i.size || !plain 3 zero then none else
    match base with
    | none =>
      if sLen * i.size = 0 then some (.slice (some ⟨h.next, 0, none⟩) need need, .new (.cells new el (0, 0) true)) else none
    | some a =>
      if a.spot.isSome then none else
      let .cells c el' fz g ← h.get a.block | none
      let old ← takeN c a.off (sLen * i.size)
      if g then
        -- what there really is may lie in place: the elder block is forgotten
        if a.off = 0 ∧ a.block ≥ Z.N0 ∧ el' = el ∧ fz = (0, 0) ∧ sCap * i.size = c.length ∧ i.size ≠ 0 then
          some (.slice (some ⟨h.next, 0, none⟩) need need, .grow a.block (.cells (old ++ new) el (0, 0) true))
        else none
      else some (.slice (some ⟨h.next, 0, none⟩) need need, .new (.cells (old ++ new) el (0, 0) true))

def byteOf? : Value → Option UInt8
  | .int .u8 n => if 0 ≤ n ∧ n < 256 then some (UInt8.ofNat n.toNat) else none
  | _ => none

def copyA (h : Heap) (argTypes : Array TypeId) (dst src : Value) : Option (Value × Delta) := do
  let dt ← argTypes[0]?
  let .slice el ← Z.und dt | none
  let .slice base dLen _ := dst | none
  let i ← Z.info el
  let m ← lenOfA src
  let n := Nat.min m dLen
  let cells ← firstCellsA h i.size n src
  match base with
  | none => some (goInt n, .same)
  | some a =>
    if cells.isEmpty then some (goInt n, .same) else
    let h' ← storeCellsA Z h a cells
    some (goInt n, h')

/-- 'unsafe.String': the bytes of a row, which from now on may not be written. -/
def unsafeStrA (h : Heap) (argTypes : Array TypeId) (a : Addr) (n : Int) : Option (Value × Delta) := do
  if a.spot.isSome || n ≤ 0 || n > 2 ^ 40 || a.block < Z.N0 || a.off ≠ 0 then none else
  let .cells c el fz g ← h.get a.block | none
  if fz ≠ (0, 0) || g then none else
  let [pt, _] := argTypes.toList | none
  let .pointer u ← Z.und pt | none
  let i ← Z.info u
  if i.size ≠ 1 || u ≠ el then none else
  let r ← takeN c a.off n.toNat
  let bs ← r.mapM byteOf?
  some (.string ⟨bs.toArray⟩, .set a.block (.cells c el (0, n.toNat) g))

/-- So many elements' zeros. -/
def zerosA (z : List Value) : Nat → List Value
  | 0 => []
  | n + 1 => z ++ zerosA z n

/-! Maps. -/
def zeroA (t : TypeId) : Option Value :=
  match Z.info t with
  | some i => match i.zero with | some z => cond (plain 3 z) (some z) none | none => none
  | none => none
def keyFieldsA (f : TypeId → Value → Bool) (xs : Array Value) : List Field → Bool
  | [] => true
  | fl :: fs => (if fl.name = "_" then true else match partA Z fl.type xs fl.offset with | some a => f fl.type a | none => false) && keyFieldsA f xs fs
def keyElemsA (f : Value → Bool) (el : TypeId) (size : Nat) (xs : Array Value) : Nat → Nat → Bool
  | _, 0 => true
  | i, n + 1 => (match partA Z el xs (i * size) with | some a => f a | none => false) && keyElemsA f el size xs (i + 1) n
/-- Is it a key, without interfaces? -/
def keyOkA : Nat → TypeId → Value → Bool
  | 0, _, _ => false
  | n + 1, t, v =>
    match Z.und t, v with
    | some (.int _), .int _ _ => true
    | some .string, .string _ => true
    | some .bool, .bool _ => true
    | some (.struct fs), .agg cs => keyFieldsA Z (keyOkA n) cs fs.toList
    | some (.array len el), .agg cs => match Z.info el with | some i => keyElemsA Z (keyOkA n el) el i.size cs 0 len | none => false
    | _, _ => false
def findL (f : Value → Option Bool) : List MapEntry → Nat → Option (Option (Nat × Value))
  | [], _ => some none
  | e :: es, i =>
    match f e.key with
    | some true => some (some (i, e.val))
    | some false => findL f es (i + 1)
    | none => none
def findA (kt : TypeId) (k : Value) (es : List MapEntry) : Option (Option (Nat × Value)) :=
  match Z.und kt with
  | some (.int i) => Instr.findNow (.int i) k es 0
  | some .string => Instr.findNow .string k es 0
  | some .bool => Instr.findNow .bool k es 0
  | some (.struct _) | some (.array _ _) => findL (eqV Z 6 kt k) es 0
  | _ => none
def mapRowsA (h : Heap) (x : Value) : Option (List MapEntry) :=
  match x with
  | .map none => some []
  | .map (some r) => match h.get r with | some (.map es _) => some es | _ => none
  | _ => none
def lookupA (h : Heap) (t : TypeId) (x ix : Value) (ok : Bool) : Option Value := do
  let .map kt el ← Z.und t | none
  if !(keyOkA Z 5 kt ix && plain 3 ix) then none else
  let z ← zeroA Z el
  let es ← mapRowsA h x
  match ← findA Z kt ix es with
  | some (_, v) => some (if ok then .tuple #[v, .bool true] else v)
  | none => some (if ok then .tuple #[z, .bool false] else z)
/-- A map that may be written, and where the key stands in it. -/
def mapAtA (h : Heap) (t : TypeId) (m k : Value) : Option (Nat × List MapEntry × Nat × TypeId × Option (Nat × Value)) := do
  let .map kt el ← Z.und t | none
  if !(keyOkA Z 5 kt k && plain 3 k) then none else
  let .map (some r) := m | none
  if r < Z.N0 then none else
  let .map es clock ← h.get r | none
  let a ← findA Z kt k es
  match a with
  | none => some (r, es, clock, el, none)
  | some (i, v) =>
    let e ← es[i]?
    if plain 3 e.key && Instr.sameBits 10000 e.key k then some (r, es, clock, el, some (i, v)) else none
def mapUpdateA (h : Heap) (t : TypeId) (m k v : Value) : Option Delta := do
  let (r, es, clock, _, a) ← mapAtA Z h t m k
  match a with
  | some (i, _) => some (.set r (.map (es.modify i fun e => { e with key := k, val := v }) clock))
  | none => some (.set r (.map (es ++ [⟨k, v, clock⟩]) (clock + 1)))
def mapEntryA (h : Heap) (t : TypeId) (m k : Value) : Option (Value × Delta) := do
  let (r, es, clock, el, a) ← mapAtA Z h t m k
  match a with
  | some (i, v) => some (.tuple #[v, goInt (((es[i]?).map (·.born)).getD 0)], .set r (.map (es.modify i fun e => { e with key := k }) clock))
  | none =>
    let z ← zeroA Z el
    some (.tuple #[z, goInt clock], .set r (.map (es ++ [⟨k, z, clock⟩]) (clock + 1)))
def entryStoreA (h : Heap) (m stamp v : Value) : Option Delta := do
  let .map (some r) := m | none
  if r < Z.N0 then none else
  let .map es clock ← h.get r | none
  let .int _ n := stamp | none
  match es.findIdx? (fun e => (e.born : Int) == n) with
  | some i => some (.set r (.map (es.modify i fun e => { e with val := v }) clock))
  | none => none
def deleteA (h : Heap) (t : TypeId) (m k : Value) : Option Delta := do
  let .map kt _ ← Z.und t | none
  if !(keyOkA Z 5 kt k && plain 3 k) then none else
  match m with
  | .map none => some .same
  | .map (some r) =>
    if r < Z.N0 then none else
    let .map es clock ← h.get r | none
    match ← findA Z kt k es with
    | some (i, _) => some (.set r (.map (es.eraseIdx i) clock))
    | none => some (.set r (.map es clock))
  | _ => none
def clearA (h : Heap) (t : TypeId) (x : Value) : Option Delta := do
  let .slice el ← Z.und t | none
  match x with
  | .slice _ 0 _ => some .same
  | .slice (some a) n _ =>
    let z ← zeroA Z el
    storeCellsA Z h a (zerosA z.cells.toList n)
  | _ => none

/-- 'x.(T)'. -/
def missesA (want : Array (String × TypeId)) (got : Array Method) : Bool := want.toList.any fun w => !got.any fun m => m.name == w.1 && m.sig == w.2
def typeAssertA (x : Value) (asserted : TypeId) (ok : Bool) : Option Value := do
  let z ← zeroA Z asserted
  match ← Z.und asserted, x with
  | .interface want, .iface t v =>
    let i ← Z.info t
    if missesA want i.methods then (if ok then some (.tuple #[z, .bool false]) else none)
    else some (if ok then .tuple #[.iface t v, .bool true] else .iface t v)
  | _, .nilIface => if ok then some (.tuple #[z, .bool false]) else none
  | _, .iface t v => if t = asserted then some (if ok then .tuple #[v, .bool true] else v) else if ok then some (.tuple #[z, .bool false]) else none
  | _, _ => none

def builtinA (h : Heap) (b : Builtin) (argTypes : Array TypeId) (args : List Value) : Option Out := do
  match b, args with
  | .len, [x] =>
    let t ← argTypes[0]?
    match ← Z.und t, x with
    | .string, .string s => some (.val (goInt s.size) .same)
    | .slice _, .slice _ n _ => some (.val (goInt n) .same)
    | .array n _, _ => some (.val (goInt n) .same)
    | .map _ _, .map none => some (.val (goInt 0) .same)
    | .map _ _, .map (some r) =>
      let .map es _ ← h.get r | none
      some (.val (goInt es.length) .same)
    | _, _ => none
  | .delete, [m, k] =>
    let t ← argTypes[0]?
    (deleteA Z h t m k).map fun d => .val (.tuple #[]) d
  | .clear, [x] =>
    let t ← argTypes[0]?
    (clearA Z h t x).map fun d => .val (.tuple #[]) d
  | .append, [s, x] => (appendA Z h argTypes s x).map fun r => .val r.1 r.2
  | .copy, [d, s] => (copyA Z h argTypes d s).map fun r => .val r.1 r.2
  | .min, [.int k x, .int k' y] => some (.val (.int k (if y < x then y else x)) .same)
  | .max, [.int k x, .int k' y] => some (.val (.int k (if y > x then y else x)) .same)
  | .recover, [] => some .recover
  | .unsafeString, [.pointer (some a), .int .i64 n] => (unsafeStrA Z h argTypes a n).map fun r => .val r.1 r.2
  | _, _ => none

def callFuncA (h : Heap) (f : FuncId) (args : List Value) : Option Out :=
  match Z.fn f with
  | some _ => some (.enter f args)
  | none =>
    match Z.ext f, args with
    | some .indexByte, [.string s, .int .u8 c] =>
      some (.val (match (List.range s.size).find? fun i => s[i]! == UInt8.ofNat c.toNat with | some i => goInt i | none => goInt (-1)) .same)
    | some .compare, [.string a, .string b] => some (.val (goInt (Extern.BytealgCompare.cmp a b)) .same)
    | _, _ => none

/-! The receiver of a method, along its path. -/
def placeGetA (h : Heap) (t : TypeId) : Place → Option Value
  | .val v => some v
  | .var a => loadV Z h t a
def followA (h : Heap) : List FieldStep → TypeId → Place → Option (TypeId × Place)
  | [], t, x => some (t, x)
  | s :: rest, t, x => do
    let .struct fields ← Z.und s.struct | none
    let f ← fields[s.index]?
    let i ← Z.info f.type
    if s.deref then
      let .pointer (some a) ← placeGetA Z h t x | none
      if i.size = 0 then none else
      followA h rest f.type (.var (a.add f.offset))
    else match x with
      | .var a => if i.size = 0 then none else followA h rest f.type (.var (a.add f.offset))
      | .val (.agg cs) =>
        let v ← partA Z f.type cs f.offset
        followA h rest f.type (.val v)
      | .val _ => none
def receiverA (h : Heap) (xt : TypeId) (x : Place) (ptr : Bool) : Option Value := do
  match ← Z.und xt, ptr, x with
  | .pointer _, true, x => placeGetA Z h xt x
  | .pointer elem, false, x =>
    let .pointer (some a) ← placeGetA Z h xt x | none
    loadV Z h elem a
  | _, true, .var a => some (.pointer (some a))
  | _, true, .val _ => none
  | _, false, x => placeGetA Z h xt x
def methodA (h : Heap) : Nat → TypeId → Value → String → Option (FuncId × Value)
  | 0, _, _, _ => none
  | n + 1, t, v, name => do
    let i ← Z.info t
    let m ← i.methods.find? (·.name == name)
    let (xt, x) ← followA Z h m.path.toList t (.val v)
    match m.func with
    | none =>
      match ← placeGetA Z h xt x with
      | .iface t' v' => methodA h n t' v' name
      | _ => none
    | some (f, ptr) => (receiverA Z h xt x ptr).map fun r => (f, r)

def callMethodA (h : Heap) (recv : Value) (name : String) (args : List Value) : Option Out := do
  let .iface t v := recv | none
  let (f, r) ← methodA Z h 9 t v name
  callFuncA Z h f (r :: args)

def invokeA (h : Heap) (t : Target) (args : List Value) : Option Out := do
  match t with
  | .builtin b ts _ _ => builtinA Z h b ts args
  | .fn (.func f) cap => callFuncA Z h f (args ++ cap.toList)
  | .fn (.method name) _ => match args with | r :: rest => callMethodA Z h r name rest | [] => none
  | .fn (.methodOf t name) _ =>
    match args with
    | r :: rest =>
      match ← Z.und t with
      | .interface _ => callMethodA Z h r name rest
      | _ => callMethodA Z h (.iface t r) name rest
    | [] => none
  | .fn (.via t path f ptr) _ =>
    match args with
    | x :: rest =>
      let (xt, pl) ← followA Z h path.toList t (.val x)
      let r ← receiverA Z h xt pl ptr
      callFuncA Z h f (r :: rest)
    | [] => none
  | .fn (.yield l) _ => some (.round l args)
  | _ => none

def ev (T : Tr Value) : Operand → Value
  | .tmp t => (T.get t).getD unknown
  | .const v => v
  | .global g => .pointer (some ⟨g, 0, none⟩)
  | .func f => .func (.func f) #[] #[]

def resolveA (ρ : Operand → Value) (c : Call) (type : TypeId) : Option Deferred :=
  if !(c.args.toList.all fun x => known (ρ x)) then none else
  let args := c.args.map ρ
  match c.callee with
  | .builtin b => some { target := .builtin b c.argTypes type (c.args.map fun | .const _ => true | _ => false), args }
  | .invoke recv name => if known (ρ recv) then some { target := .fn (.method name) #[], args := #[ρ recv] ++ args } else none
  | .value f =>
    match ρ f with
    | .func fn first captured => some { target := .fn fn captured, args := first ++ args }
    | _ => none

def fillA (place : Nat → Option (Nat × Nat)) : List Value → List (Nat × Value) → Option (List Value)
  | cells, [] => some cells
  | cells, (i, v) :: rest =>
    match place i with
    | none => none
    | some (off, size) =>
      let vs := v.cells.toList
      if vs.length ≠ size || off + vs.length > cells.length then none
      else fillA place (putCells cells off vs) rest

def buildA (t : TypeId) (parts : List (Nat × Value)) : Option Value := do
  let i ← Z.info t
  let z ← i.zero
  if !plain 3 z then none
  match ← Z.und t with
  | .struct fs =>
    let cells ← fillA (fun k => (fs[k]?).bind fun f => (Z.info f.type).map fun j => (f.offset, j.size)) z.cells.toList parts
    if (fs.all fun f => (Z.info f.type).isSome) then some (.agg cells.toArray) else none
  | .array _ el =>
    let e ← Z.info el
    let cells ← fillA (fun k => some (k * e.size, e.size)) z.cells.toList parts
    some (.agg cells.toArray)
  | _ => none

def buildSliceA (h : Heap) (t : TypeId) (len : Nat) (parts : List (Nat × Value)) : Option (Value × Delta) := do
  let .slice el ← Z.und t | none
  let e ← Z.info el
  let z ← e.zero
  if !plain 3 z || z.cells.size ≠ e.size || len * e.size > 2 ^ 24 then none
  let cells ← fillA (fun k => some (k * e.size, e.size)) (zerosA z.cells.toList len) parts
  some (.slice (some ⟨h.next, 0, none⟩) len len, .new (.cells cells el (0, 0) false))

def makeSliceA (h : Heap) (t : TypeId) (len cap : Value) : Option (Value × Delta) := do
  let .slice el ← Z.und t | none
  let e ← Z.info el
  let .int _ l := len | none
  let .int _ c := cap | none
  if 0 ≤ l ∧ l ≤ c ∧ c ≤ 2 ^ 30 ∧ e.bytes ≤ 2 ^ 16 then
    let z ← e.zero
    if !plain 3 z || z.cells.size ≠ e.size || e.size = 0 then none
    some (.slice (some ⟨h.next, 0, none⟩) l.toNat c.toNat, .new (.cells (zerosA z.cells.toList c.toNat) el (0, 0) false))
  else none

def doOp (ρ : Operand → Value) (h : Heap) (o : Oper) : Option Out := do
  match o.op with
  | .move x | .assign x => if known (ρ x) then some (.val (ρ x) .same) else none
  | .pick c a b => match ρ c with
    | .bool t => cond t (if known (ρ a) then some (.val (ρ a) .same) else none) (if known (ρ b) then some (.val (ρ b) .same) else none)
    | _ => none
  | .alloc el => do
    let i ← Z.info el
    let z ← i.zero
    if plain 3 z then some (.val (.pointer (some ⟨h.next, 0, none⟩)) (.new (.cells z.cells.toList el (0, 0) false))) else none
  | .box el x => if !known (ρ x) then none else some (.val (.pointer (some ⟨h.next, 0, none⟩)) (.new (.cells (ρ x).cells.toList el (0, 0) false)))
  | .build t parts => if !(parts.toList.all fun p => known (ρ p.2)) then none else (buildA Z t (parts.toList.map fun p => (p.1, ρ p.2))).map fun v => .val v .same
  | .buildSlice t len parts => if !(parts.toList.all fun p => known (ρ p.2)) then none else (buildSliceA Z h t len (parts.toList.map fun p => (p.1, ρ p.2))).map fun r => .val r.1 r.2
  | .load t a => match ρ a with | .pointer (some ad) => (loadV Z h t ad).map fun v => .val v .same | _ => none
  | .store t a x => match ρ a with | .pointer (some ad) => if !known (ρ x) then none else (storeV Z h t ad (ρ x)).map fun d => .val undef d | _ => none
  | .nilCheck x => match ρ x with
    | .pointer (some a) => some (.val (.pointer (some a)) .same)
    | .iface t v => some (.val (.iface t v) .same)
    | .func (.func f) a b => some (.val (.func (.func f) a b) .same)
    | .func (.methodOf t n) a b => some (.val (.func (.methodOf t n) a b) .same)
    | .func (.via t p f q) a b => some (.val (.func (.via t p f q) a b) .same)
    | .func (.yield l) a b => some (.val (.func (.yield l) a b) .same)
    | _ => none
  | .binOp op t x y _ => (binOpA Z op t (isConst x || isConst y) (ρ x) (ρ y)).map fun v => .val v .same
  | .unOp op _ x => (pureOf (Op.unary op (ρ x))).bind fun v => if scalar (ρ x) then some (.val v .same) else none
  | .convert s d x =>
    match toBytesA Z h s d (ρ x) with
    | some r => some (.val r.1 r.2)
    | none => (convertA Z h s d (ρ x)).map fun v => .val v .same
  | .makeInterface t x => match Z.und t with | some (.interface _) => none | some _ => if !known (ρ x) then none else some (.val (.iface t (ρ x)) .same) | none => none
  | .makeFunc fn first cap => match fn with | .yield _ => none | fn => if !(first.toList.all fun x => known (ρ x)) || !(cap.toList.all fun x => known (ρ x)) then none else some (.val (.func fn (first.map ρ) (cap.map ρ)) .same)
  | .makeSlice t l c => (makeSliceA Z h t (ρ l) (ρ c)).map fun r => .val r.1 r.2
  | .slice t x lo hi none => (sliceA Z h t (ρ x) (lo.map ρ) (hi.map ρ) none).map fun v => .val v .same
  | .slice t x lo (some hi) (some mx) => (slice3A Z h t (ρ x) (lo.map ρ) (some (ρ hi)) (some (ρ mx))).map fun v => .val v .same
  | .makeMap t r =>
    match Z.und t, r.map ρ with
    | some (.map _ _), none | some (.map _ _), some (.int _ _) => some (.val (.map (some h.next)) (.new (.map [] 0)))
    | _, _ => none
  | .lookup t x ix ok => if known (ρ x) then (lookupA Z h t (ρ x) (ρ ix) ok).map fun v => .val v .same else none
  | .mapUpdate t m k x => if known (ρ x) then (mapUpdateA Z h t (ρ m) (ρ k) (ρ x)).map fun d => .val undef d else none
  | .insert t m k x => if known (ρ x) then (mapUpdateA Z h t (ρ m) (ρ k) (ρ x)).map fun d => .val undef d else none
  | .mapEntry t m k => (mapEntryA Z h t (ρ m) (ρ k)).map fun r => .val r.1 r.2
  | .entryStore _ m s x => if known (ρ x) then (entryStoreA Z h (ρ m) (ρ s) (ρ x)).map fun d => .val undef d else none
  | .typeAssert x _ a ok => if known (ρ x) then (typeAssertA Z (ρ x) a ok).map fun v => .val v .same else none
  | .fieldAddr s x f => (fieldAddrA Z s (ρ x) f).map fun v => .val v .same
  | .field t x f => (fieldA Z t (ρ x) f).map fun v => .val v .same
  | .indexAddr t x i => (indexAddrA Z t (ρ x) (ρ i)).map fun v => .val v .same
  | .index t x i => (indexA Z t (ρ x) (ρ i)).map fun v => .val v .same
  | .extract t i => match ρ t with | .tuple vs => (vs[i]?).map fun v => .val v .same | _ => none
  | .call c => do
    let d ← resolveA ρ c o.type
    invokeA Z h d.target d.args.toList
  | .defer c => (resolveA ρ c o.type).map .defer
  | .panic x => match ρ x with | .iface t v => some (.panic (.iface t v)) | _ => none
  | _ => none

def dO_move (ρ : Operand → Value) (h : Heap) (o : Oper) (x : Operand) : Option Out := if known (ρ x) then some (.val (ρ x) .same) else none
def dO_assign (ρ : Operand → Value) (h : Heap) (o : Oper) (x : Operand) : Option Out := if known (ρ x) then some (.val (ρ x) .same) else none
def dO_pick (ρ : Operand → Value) (h : Heap) (o : Oper) (c a b : Operand) : Option Out := match ρ c with
    | .bool t => cond t (if known (ρ a) then some (.val (ρ a) .same) else none) (if known (ρ b) then some (.val (ρ b) .same) else none)
    | _ => none
def dO_alloc (ρ : Operand → Value) (h : Heap) (o : Oper) (el : TypeId) : Option Out := do
    let i ← Z.info el
    let z ← i.zero
    if plain 3 z then some (.val (.pointer (some ⟨h.next, 0, none⟩)) (.new (.cells z.cells.toList el (0, 0) false))) else none
def dO_box (ρ : Operand → Value) (h : Heap) (o : Oper) (el : TypeId) (x : Operand) : Option Out := if !known (ρ x) then none else some (.val (.pointer (some ⟨h.next, 0, none⟩)) (.new (.cells (ρ x).cells.toList el (0, 0) false)))
def dO_build (ρ : Operand → Value) (h : Heap) (o : Oper) (t : TypeId) (parts : Array (Nat × Operand)) : Option Out := if !(parts.toList.all fun p => known (ρ p.2)) then none else (buildA Z t (parts.toList.map fun p => (p.1, ρ p.2))).map fun v => .val v .same
def dO_buildSlice (ρ : Operand → Value) (h : Heap) (o : Oper) (t : TypeId) (len : Nat) (parts : Array (Nat × Operand)) : Option Out := if !(parts.toList.all fun p => known (ρ p.2)) then none else (buildSliceA Z h t len (parts.toList.map fun p => (p.1, ρ p.2))).map fun r => .val r.1 r.2
def dO_insert (ρ : Operand → Value) (h : Heap) (o : Oper) (t : TypeId) (m k x : Operand) : Option Out := if known (ρ x) then (mapUpdateA Z h t (ρ m) (ρ k) (ρ x)).map fun d => .val undef d else none
def dO_load (ρ : Operand → Value) (h : Heap) (o : Oper) (t : TypeId) (a : Operand) : Option Out := match ρ a with | .pointer (some ad) => (loadV Z h t ad).map fun v => .val v .same | _ => none
def dO_store (ρ : Operand → Value) (h : Heap) (o : Oper) (t : TypeId) (a x : Operand) : Option Out := match ρ a with | .pointer (some ad) => if !known (ρ x) then none else (storeV Z h t ad (ρ x)).map fun d => .val undef d | _ => none
def dO_nilCheck (ρ : Operand → Value) (h : Heap) (o : Oper) (x : Operand) : Option Out := match ρ x with
    | .pointer (some a) => some (.val (.pointer (some a)) .same)
    | .iface t v => some (.val (.iface t v) .same)
    | .func (.func f) a b => some (.val (.func (.func f) a b) .same)
    | .func (.methodOf t n) a b => some (.val (.func (.methodOf t n) a b) .same)
    | .func (.via t p f q) a b => some (.val (.func (.via t p f q) a b) .same)
    | .func (.yield l) a b => some (.val (.func (.yield l) a b) .same)
    | _ => none
def dO_binOp (ρ : Operand → Value) (h : Heap) (o : Oper) (op : BinOp) (t : TypeId) (x y : Operand) (yt : TypeId) : Option Out := (binOpA Z op t (isConst x || isConst y) (ρ x) (ρ y)).map fun v => .val v .same
def dO_unOp (ρ : Operand → Value) (h : Heap) (o : Oper) (op : UnOp) (t : TypeId) (x : Operand) : Option Out := (pureOf (Op.unary op (ρ x))).bind fun v => if scalar (ρ x) then some (.val v .same) else none
def dO_convert (ρ : Operand → Value) (h : Heap) (o : Oper) (s d : TypeId) (x : Operand) : Option Out := 
    match toBytesA Z h s d (ρ x) with
    | some r => some (.val r.1 r.2)
    | none => (convertA Z h s d (ρ x)).map fun v => .val v .same
def dO_makeInterface (ρ : Operand → Value) (h : Heap) (o : Oper) (t : TypeId) (x : Operand) : Option Out := match Z.und t with | some (.interface _) => none | some _ => if !known (ρ x) then none else some (.val (.iface t (ρ x)) .same) | none => none
def dO_makeFunc (ρ : Operand → Value) (h : Heap) (o : Oper) (fn : Fn) (first cap : Array Operand) : Option Out := match fn with | .yield _ => none | fn => if !(first.toList.all fun x => known (ρ x)) || !(cap.toList.all fun x => known (ρ x)) then none else some (.val (.func fn (first.map ρ) (cap.map ρ)) .same)
def dO_makeMap (ρ : Operand → Value) (h : Heap) (o : Oper) (t : TypeId) (r : Option Operand) : Option Out := 
    match Z.und t, r.map ρ with
    | some (.map _ _), none | some (.map _ _), some (.int _ _) => some (.val (.map (some h.next)) (.new (.map [] 0)))
    | _, _ => none
def dO_makeSlice (ρ : Operand → Value) (h : Heap) (o : Oper) (t : TypeId) (l c : Operand) : Option Out := (makeSliceA Z h t (ρ l) (ρ c)).map fun r => .val r.1 r.2
def dO_slice (ρ : Operand → Value) (h : Heap) (o : Oper) (t : TypeId) (x : Operand) (lo hi mx : Option Operand) : Option Out := match hi, mx with
  | hi, none => (sliceA Z h t (ρ x) (lo.map ρ) (hi.map ρ) none).map fun v => .val v .same
  | some hi, some mx => (slice3A Z h t (ρ x) (lo.map ρ) (some (ρ hi)) (some (ρ mx))).map fun v => .val v .same
  | _, _ => none
def dO_fieldAddr (ρ : Operand → Value) (h : Heap) (o : Oper) (s : TypeId) (x : Operand) (f : Nat) : Option Out := (fieldAddrA Z s (ρ x) f).map fun v => .val v .same
def dO_field (ρ : Operand → Value) (h : Heap) (o : Oper) (t : TypeId) (x : Operand) (f : Nat) : Option Out := (fieldA Z t (ρ x) f).map fun v => .val v .same
def dO_indexAddr (ρ : Operand → Value) (h : Heap) (o : Oper) (t : TypeId) (x i : Operand) : Option Out := (indexAddrA Z t (ρ x) (ρ i)).map fun v => .val v .same
def dO_index (ρ : Operand → Value) (h : Heap) (o : Oper) (t : TypeId) (x i : Operand) : Option Out := (indexA Z t (ρ x) (ρ i)).map fun v => .val v .same
def dO_lookup (ρ : Operand → Value) (h : Heap) (o : Oper) (t : TypeId) (x ix : Operand) (ok : Bool) : Option Out := if known (ρ x) then (lookupA Z h t (ρ x) (ρ ix) ok).map fun v => .val v .same else none
def dO_mapUpdate (ρ : Operand → Value) (h : Heap) (o : Oper) (t : TypeId) (m k x : Operand) : Option Out := if known (ρ x) then (mapUpdateA Z h t (ρ m) (ρ k) (ρ x)).map fun d => .val undef d else none
def dO_mapEntry (ρ : Operand → Value) (h : Heap) (o : Oper) (t : TypeId) (m k : Operand) : Option Out := (mapEntryA Z h t (ρ m) (ρ k)).map fun r => .val r.1 r.2
def dO_entryStore (ρ : Operand → Value) (h : Heap) (o : Oper) (t : TypeId) (m s x : Operand) : Option Out := if known (ρ x) then (entryStoreA Z h (ρ m) (ρ s) (ρ x)).map fun d => .val undef d else none
def dO_typeAssert (ρ : Operand → Value) (h : Heap) (o : Oper) (x : Operand) (t a : TypeId) (ok : Bool) : Option Out := if known (ρ x) then (typeAssertA Z (ρ x) a ok).map fun v => .val v .same else none
def dO_extract (ρ : Operand → Value) (h : Heap) (o : Oper) (t : Operand) (i : Nat) : Option Out := match ρ t with | .tuple vs => (vs[i]?).map fun v => .val v .same | _ => none
def dO_call (ρ : Operand → Value) (h : Heap) (o : Oper) (c : Call) : Option Out := do
    let d ← resolveA ρ c o.type
    invokeA Z h d.target d.args.toList
def dO_defer (ρ : Operand → Value) (h : Heap) (o : Oper) (c : Call) : Option Out := (resolveA ρ c o.type).map .defer
def dO_panic (ρ : Operand → Value) (h : Heap) (o : Oper) (x : Operand) : Option Out := match ρ x with | .iface t v => some (.panic (.iface t v)) | _ => none
noncomputable def doOpF (ρ : Operand → Value) (h : Heap) (o : Oper) : Option Out := Op.rec (motive := fun _ => Option Out)
  (fun x => dO_move ρ h o x)
  (fun x => dO_assign ρ h o x)
  (fun c a b => dO_pick ρ h o c a b)
  (fun el => dO_alloc Z ρ h o el)
  (fun el x => dO_box ρ h o el x)
  (fun t parts => dO_build Z ρ h o t parts)
  (fun t len parts => dO_buildSlice Z ρ h o t len parts)
  (fun t m k x => dO_insert Z ρ h o t m k x)
  (fun t a => dO_load Z ρ h o t a)
  (fun t a x => dO_store Z ρ h o t a x)
  (fun _ => none)
  (fun _ => none)
  (fun x => dO_nilCheck ρ h o x)
  (fun op t x y yt => dO_binOp Z ρ h o op t x y yt)
  (fun op t x => dO_unOp ρ h o op t x)
  (fun s d x => dO_convert Z ρ h o s d x)
  (fun _ _ => none)
  (fun t x => dO_makeInterface Z ρ h o t x)
  (fun fn first cap => dO_makeFunc ρ h o fn first cap)
  (fun t r => dO_makeMap Z ρ h o t r)
  (fun _ _ => none)
  (fun t l c => dO_makeSlice Z ρ h o t l c)
  (fun t x lo hi mx => dO_slice Z ρ h o t x lo hi mx)
  (fun s x f => dO_fieldAddr Z ρ h o s x f)
  (fun t x f => dO_field Z ρ h o t x f)
  (fun t x i => dO_indexAddr Z ρ h o t x i)
  (fun t x i => dO_index Z ρ h o t x i)
  (fun t x ix ok => dO_lookup Z ρ h o t x ix ok)
  (fun t m k x => dO_mapUpdate Z ρ h o t m k x)
  (fun t m k => dO_mapEntry Z ρ h o t m k)
  (fun t m s x => dO_entryStore Z ρ h o t m s x)
  (fun _ _ => none)
  (fun _ _ => none)
  (fun _ => none)
  (fun x t a ok => dO_typeAssert Z ρ h o x t a ok)
  (fun t i => dO_extract ρ h o t i)
  (fun c => dO_call Z ρ h o c)
  (fun _ => none)
  (fun c => dO_defer ρ h o c)
  (fun x => dO_panic ρ h o x)
  (fun _ _ => none)
  (fun _ _ _ => none)
  (fun _ _ => none) o.op
theorem doOpF_eq (ρ : Operand → Value) (h : Heap) (o : Oper) : doOpF Z ρ h o = doOp Z ρ h o := by
  obtain ⟨dst, op, type, pos, after, guard⟩ := o
  cases op
  case slice t x lo hi mx => unfold doOpF doOp; cases hi <;> cases mx <;> simp only [dO_slice]
  all_goals (unfold doOpF doOp; dsimp only; try simp only [dO_move, dO_assign, dO_pick, dO_alloc, dO_box, dO_build, dO_buildSlice, dO_insert, dO_load, dO_store, dO_nilCheck, dO_binOp, dO_unOp, dO_convert, dO_makeInterface, dO_makeFunc, dO_makeMap, dO_makeSlice, dO_slice, dO_fieldAddr, dO_field, dO_indexAddr, dO_index, dO_lookup, dO_mapUpdate, dO_mapEntry, dO_entryStore, dO_typeAssert, dO_extract, dO_call, dO_defer, dO_panic])
/-! What code must be to be followed: what it writes lies in the frame, and its constants and variables are known. -/
def operandOk (G : Nat) : Operand → Bool
  | .const v => plain 3 v
  | .global g => Nat.blt g G
  | _ => true
def opOk (G nt : Nat) (o : Oper) : Bool := (match o.dst with | some d => Nat.blt d nt | none => true) && o.op.operands.toList.all (operandOk G)
def cOk (G nt : Nat) : Code → Bool
  | .region _ ops _ => ops.toList.all (opOk G nt)
  | .seq a b => cOk G nt a && cOk G nt b
  | .cond c a b => operandOk G c && cOk G nt a && cOk G nt b
  | .block _ c | .loop c | .scope c => cOk G nt c
  | .rangeFunc g ps a b => operandOk G g && ps.toList.all (fun p => Nat.blt p nt) && cOk G nt a && cOk G nt b
  | _ => true

structure St where
  T : Tr Value
  h : Heap
  ds : List Deferred

def St.elimK {β : Type} (s : St) (k : Tr Value → Heap → List Deferred → β) : β := match s with | ⟨T, h, ds⟩ => k T h ds

inductive Res where
  | ret (v : Value)
  | pan (v : Value)

/-- The three kinds of calls: a function's, a round's, a deferred one (with what the frame below panics with; and whether it has recovered). -/
structure Calls3 where
  fn : FuncId → List Value → Heap → Option (Res × Heap)
  rd : Nat → List Value → Heap → Option (Value × Heap)
  df : FuncId → List Value → Option Value → Heap → Option (Bool × Heap)

def Calls3.none : Calls3 := ⟨fun _ _ _ => .none, fun _ _ _ => .none, fun _ _ _ _ => .none⟩

structure Ctx where
  fid : FuncId
  nt : Nat
  round : Bool

inductive Ex where
  | normal
  | exit (id : Nat)
  | ret
  | panic (v : Value)

def putA (T : Tr Value) (d : Option Tmp) (v : Value) : Tr Value :=
  match d with
  | some d => T.set d (some v)
  | none => T

def putK {β : Type} (T : Tr Value) (d : Option Tmp) (v : Value) (k : Tr Value → β) : β :=
  match d with
  | some d => forceV 6 v fun v => T.setK 40 d (some v) k
  | none => k T

def Heap.app (h : Heap) : Delta → Heap
  | .same => h
  | .new o => h.new o
  | .set b o => h.set b (some o)
  | .grow b o => (h.set b none).new o

/-- The parts of a followed memory, of a state, at hand (so that nothing is asked for over and over again). -/
def Heap.elimK {β : Type} (h : Heap) (k : Tr AObj → Nat → List Nat → β) : β := match h with | ⟨m, n, g⟩ => k m n g
def Heap.setK {β : Type} (h : Heap) (b : Nat) (o : Option AObj) (k : Heap → β) : β := h.elimK fun hm hn hg => hm.setK 40 b o fun m => k ⟨m, hn, hg⟩
def Heap.newK {β : Type} (h : Heap) (o : AObj) (k : Heap → β) : β :=
  forceObj o fun o => h.elimK fun hm hn hg => hm.setK 40 hn (some o) fun m => forceNat (hn + 1) fun n => k ⟨m, n, hg⟩
def Heap.appK {β : Type} (h : Heap) (d : Delta) (k : Heap → β) : β :=
  match d with
  | .same => h.elimK fun m n g => k ⟨m, n, g⟩
  | .new o => h.newK o k
  | .set b o => forceRow o fun o => h.setK b (some o) k
  | .grow b o => h.setK b none fun h => h.newK o k

def wantedA (o : Oper) (ops : Array Oper) (T : Tr Value) : Option Bool :=
  match o.guard with
  | none => some true
  | some (j, want) =>
    match (ops[j]?).bind (·.dst) with
    | none => none
    | some d => match T.get d with | some (.bool b) => some (b == want) | some _ => some false | none => none

/-- One operation, in the order of the text. -/
def step1 (C : Calls3) (rd : Bool) (ops : Array Oper) (o : Oper) (s : St) : Option (Ex × St) := s.elimK fun sT sh sds => do
  if !Nat.blt sh.next 1000000000 then none else
  if ← wantedA o ops sT then
    match ← doOpF Z (ev sT) sh o with
    | .val v d => putK sT o.dst v fun T => sh.appK d fun h => some (.normal, ⟨T, h, sds⟩)
    | .enter f args =>
      match ← C.fn f args sh with
      | (.ret v, h) => putK sT o.dst v fun T => some (.normal, ⟨T, h, sds⟩)
      | (.pan v, h) => some (.panic v, ⟨sT, h, sds⟩)
    | .round l args =>
      let (v, h) ← C.rd l args sh
      putK sT o.dst v fun T => some (.normal, ⟨T, h, sds⟩)
    | .defer d => if rd then none else putK sT o.dst undef fun T => some (.normal, ⟨T, sh, d :: sds⟩)
    | .panic v => some (.panic v, ⟨sT, sh, sds⟩)
    | .recover => none
  else putK sT o.dst undef fun T => some (.normal, ⟨T, sh, sds⟩)

def stepL (C : Calls3) (rd : Bool) (ops : Array Oper) : List Oper → St → Option (Ex × St)
  | [], s => some (.normal, s)
  | o :: rest, s =>
    match step1 Z C rd ops o s with
    | some (.normal, s') => stepL C rd ops rest s'
    | r => r

/-! A region that draws its order: it is followed in the order of the text, and it is checked that each other order does the same. -/
/-- 0: what memory plays no part in; 1: a load; 2: a new row; 3: all else; 5: what is not followed here. -/
def kindOf : Op → Nat
  | .move _ | .assign _ | .pick .. | .build .. | .nilCheck _ | .binOp .. | .unOp .. | .makeInterface .. | .makeFunc .. | .fieldAddr .. | .field .. | .indexAddr .. | .index .. | .extract .. | .typeAssert .. => 0
  | .load .. | .lookup .. => 1
  | .buildSlice .. | .alloc .. | .box .. => 2
  | .defer _ => 5
  | _ => 3

structure DRec where
  T : Tr Value
  h : Heap
  kind : Nat

def fwd (C : Calls3) (rd : Bool) (ops : Array Oper) : List Oper → St → Option (List DRec × St)
  | [], s => some ([], s)
  | o :: os, s =>
    match wantedA o ops s.T with
    | none => none
    | some b =>
      match step1 Z C rd ops o s with
      | some (.normal, s') =>
        cond (Nat.ble s.h.next s'.h.next && Nat.blt s'.h.next 1000000000 && s'.h.ghost.isEmpty && Nat.beq s'.ds.length s.ds.length)
          (match fwd C rd ops os s' with
          | some (rs, sf) => some (⟨s.T, s.h, cond b (kindOf o.op) 4⟩ :: rs, sf)
          | none => none) none
      | _ => none

def bitA (A : Tr Nat) (i j : Nat) : Bool := match A.get i with | some m => Nat.testBit m j | none => false
def maskOf (A : Tr Nat) (i : Nat) : List Edge → Option Nat
  | [] => some 0
  | e :: es =>
    match maskOf A i es with
    | none => none
    | some m => cond (Region.binds .any e) (cond (Nat.blt e.on i) (some (m ||| 2 ^ e.on ||| (A.get e.on).getD 0)) none) (some m)
def masks : List Oper → Nat → Tr Nat → Option (Tr Nat)
  | [], _, A => some A
  | o :: os, i, A =>
    match maskOf A i o.after.toList with
    | none => none
    | some m => masks os (i + 1) (A.set i (some m))
def writers : List Oper → Nat → Tr Nat → Option (Tr Nat)
  | [], _, W => some W
  | o :: os, i, W =>
    match o.dst with
    | none => writers os (i + 1) W
    | some d => cond (W.get d).isSome none (writers os (i + 1) (W.set d (some i)))
def isEff (k : Nat) : Bool := Nat.beq k 2 || Nat.beq k 3
def hiOf (A : Tr Nat) (i : Nat) : List Nat → Nat → Nat
  | [], m => m
  | k :: ks, m => cond (isEff k && bitA A m i) m (hiOf A i ks (m + 1))
def loOf (A : Tr Nat) (i : Nat) : List Nat → Nat → Nat
  | [], m => m
  | k :: ks, m => cond (isEff k && !bitA A i m) m (loOf A i ks (m + 1))
def lvoOf (A : Tr Nat) (ks : List Nat) (i k : Nat) : Nat := cond (isEff k) (i + 1) (hiOf A i ks 0)
def lvos (A : Tr Nat) (all : List Nat) : List Nat → Nat → List Nat
  | [], _ => []
  | k :: ks, i => forceNat (lvoOf A all i k) fun n => n :: lvos A all ks (i + 1)
def chkTmp (A W : Tr Nat) (lvo : List Nat) (i lp : Nat) (t : Tmp) : Bool :=
  match W.get t with
  | none => true
  | some j => cond (Nat.blt j i) (bitA A i j && Nat.ble (lvo.getD j 0) lp) (cond (Nat.blt i j) (bitA A j i) true)
def chkOpnd (A W : Tr Nat) (lvo : List Nat) (i lp : Nat) : Operand → Bool
  | .tmp t => chkTmp A W lvo i lp t
  | _ => true
def chkGuard (A W : Tr Nat) (lvo : List Nat) (i lp : Nat) (ops : Array Oper) (o : Oper) : Bool :=
  match o.guard with
  | none => true
  | some (j, _) => match (ops[j]?).bind (·.dst) with | some d => chkTmp A W lvo i lp d | none => true

def sameV : Nat → Value → Value → Bool
  | 0, _, _ => false
  | n + 1, a, b =>
    match a, b with
    | .bool x, .bool y => x == y
    | .int k x, .int k' y => decide (k = k') && decide (x = y)
    | .string x, .string y => decide (x.data.toList = y.data.toList)
    | .pointer none, .pointer none => true
    | .pointer (some x), .pointer (some y) => Nat.beq x.block y.block && Nat.beq x.off y.off && x.spot.isNone && y.spot.isNone
    | .slice none l c, .slice none l' c' => Nat.beq l l' && Nat.beq c c'
    | .slice (some x) l c, .slice (some y) l' c' => Nat.beq x.block y.block && Nat.beq x.off y.off && x.spot.isNone && y.spot.isNone && Nat.beq l l' && Nat.beq c c'
    | .nilIface, .nilIface => true
    | .iface t x, .iface t' y => Nat.beq t t' && sameV n x y
    | .agg x, .agg y => Nat.beq x.size y.size && (x.toList.zip y.toList).all fun p => sameV n p.1 p.2
    | .tuple x, .tuple y => Nat.beq x.size y.size && (x.toList.zip y.toList).all fun p => sameV n p.1 p.2
    | .map none, .map none => true
    | .map (some r), .map (some r') => Nat.beq r r'
    | .nilFunc, .nilFunc => true
    | .func f a b, .func f' a' b' => decide (f = f') && Nat.beq a.size a'.size && Nat.beq b.size b'.size && ((a.toList.zip a'.toList).all fun p => sameV n p.1 p.2) && ((b.toList.zip b'.toList).all fun p => sameV n p.1 p.2)
    | _, _ => false

def chkLoad (hs : List Heap) (lo hi : Nat) (r : DRec) : Op → Bool
  | .load t x =>
    match ev r.T x with
    | .pointer (some ad) =>
      match loadV Z r.h t ad with
      | some v => ((hs.drop lo).take (hi + 1 - lo)).all fun h => match loadV Z h t ad with | some v' => sameV 6 v' v | none => false
      | none => false
    | _ => false
  | .lookup t x ix ok =>
    match lookupA Z r.h t (ev r.T x) (ev r.T ix) ok with
    | some v => known (ev r.T x) && ((hs.drop lo).take (hi + 1 - lo)).all fun h => match lookupA Z h t (ev r.T x) (ev r.T ix) ok with | some v' => sameV 6 v' v | none => false
    | none => false
  | _ => false
def chkOp (A W : Tr Nat) (ks lvo : List Nat) (hs : List Heap) (ops : Array Oper) (i : Nat) (o : Oper) (r : DRec) : Bool :=
  forceNat (hiOf A i ks 0) fun hi =>
  forceNat (loOf A i ks 0) fun lo =>
  forceNat (cond (isEff r.kind) i hi) fun lp =>
  o.op.operands.toList.all (chkOpnd A W lvo i lp) && chkGuard A W lvo i lp ops o &&
    cond (Nat.beq r.kind 1) (chkLoad Z hs lo hi r o.op) (cond (Nat.beq r.kind 3) (Nat.ble i lo) (!Nat.beq r.kind 5))
def chkAll (A W : Tr Nat) (ks lvo : List Nat) (hs : List Heap) (ops : Array Oper) : List Oper → List DRec → Nat → Bool
  | o :: os, r :: rs, i => chkOp Z A W ks lvo hs ops i o r && chkAll A W ks lvo hs ops os rs (i + 1)
  | _, _, _ => true

def stepD0 (C : Calls3) (rd : Bool) (ops : Array Oper) (s : St) : Option (Ex × St) :=
  cond (Nat.blt ops.size 1000 && s.h.ghost.isEmpty && Nat.blt s.h.next 1000000000)
    (match masks ops.toList 0 .e, writers ops.toList 0 .e, fwd Z C rd ops ops.toList s with
    | some A, some W, some (rs, sf) =>
      cond (chkAll Z A W (rs.map (·.kind)) (lvos A (rs.map (·.kind)) (rs.map (·.kind)) 0) (rs.map (·.h) ++ [sf.h]) ops ops.toList rs 0) (some (.normal, sf)) none
    | _, _, _ => none) none

/-! A region in which an operation panics: those that depend on it are not done, all that turns memory is done before it, and what else is there does not matter. -/
inductive Fwd where
  | ok (rs : List DRec) (sf : St)
  | pan (k : Nat)
  | bad
def fwdX (C : Calls3) (rd : Bool) (ops : Array Oper) : List Oper → Nat → St → Fwd
  | [], _, s => .ok [] s
  | o :: os, i, s =>
    match wantedA o ops s.T with
    | none => .bad
    | some b =>
      match step1 Z C rd ops o s with
      | some (.normal, s') =>
        cond (Nat.ble s.h.next s'.h.next && Nat.blt s'.h.next 1000000000 && s'.h.ghost.isEmpty && Nat.beq s'.ds.length s.ds.length)
          (match fwdX C rd ops os (i + 1) s' with
          | .ok rs sf => .ok (⟨s.T, s.h, cond b (kindOf o.op) 4⟩ :: rs) sf
          | .pan k => .pan k
          | .bad => .bad) .bad
      | some (.panic _, _) => .pan i
      | _ => .bad
def keepT (T : Tr Value) : List Tmp → Tr Value
  | [] => .e
  | t :: ts =>
    match T.get t with
    | some v => cond (Nat.blt t 1000000000) ((keepT T ts).set t (some v)) (keepT T ts)
    | none => keepT T ts
def operTmps (ops : Array Oper) (o : Oper) : List Tmp :=
  (o.op.operands.toList.filterMap fun x => match x with | .tmp t => some t | _ => none) ++
  (match o.guard with | some (j, _) => (match (ops[j]?).bind (·.dst) with | some d => [d] | none => []) | none => [])
def probe (o : Oper) : Oper := { o with dst := none, op := .makeFunc (.func 0) o.op.operands #[] }
def idle (o : Oper) : Oper := { o with dst := none, op := .move (.const (.bool true)), guard := none }
def lstP (A : Tr Nat) (k : Nat) : List Oper → Nat → List Oper
  | [], _ => []
  | o :: os, i => cond (Nat.beq i k) (probe o) (cond (bitA A i k) (idle o) o) :: lstP A k os (i + 1)
def effAnc (A : Tr Nat) (k : Nat) : List DRec → Nat → Bool
  | [], _ => true
  | r :: rs, i => cond (isEff r.kind) (bitA A k i) true && effAnc A k rs (i + 1)
def stepP (C : Calls3) (rd : Bool) (ops : Array Oper) (s : St) (k : Nat) : Option (Ex × St) :=
  match masks ops.toList 0 .e, ops[k]? with
  | some A, some o =>
    match writers (lstP A k ops.toList 0) 0 .e, fwd Z C rd ⟨lstP A k ops.toList 0⟩ (lstP A k ops.toList 0) s with
    | some W, some (rs, sf) =>
      cond (chkAll Z A W (rs.map (·.kind)) (lvos A (rs.map (·.kind)) (rs.map (·.kind)) 0) (rs.map (·.h) ++ [sf.h]) ⟨lstP A k ops.toList 0⟩ (lstP A k ops.toList 0) rs 0 && effAnc A k rs 0)
        (match rs[k]? with
        | some r =>
          match step1 Z C rd ops o ⟨keepT r.T (operTmps ops o), sf.h, s.ds⟩ with
          | some (.panic v, s') => some (.panic v, s')
          | _ => none
        | none => none) none
    | _, _ => none
  | _, _ => none
/-! The order in which a region is followed: new rows as late as can be (in other orders they come earlier). -/
def renumO (f : Nat → Nat) (o : Oper) : Oper := { o with after := o.after.map fun e => { e with on := f e.on }, guard := o.guard.map fun g => (f g.1, g.2) }
def memN (i : Nat) : List Nat → Bool
  | [] => false
  | x :: l => cond (Nat.beq x i) true (memN i l)
def needsO (ops : Array Oper) (i : Nat) (acc : List Nat) : List Nat :=
  match ops[i]? with
  | none => []
  | some o => o.after.toList.filterMap fun e => cond (Region.binds .any e && Nat.blt e.on i && !memN e.on acc) (some e.on) none
def emitL (ops : Array Oper) : Nat → List Nat → List Nat → List Nat
  | 0, _, acc => acc
  | _ + 1, [], acc => acc
  | n + 1, i :: st, acc =>
    cond (memN i acc) (emitL ops n st acc)
      (match needsO ops i acc with
      | [] => emitL ops n st (i :: acc)
      | j :: l => emitL ops n (j :: (l ++ i :: st)) acc)
def rowsOf (b : Bool) : List Oper → Nat → List Nat
  | [], _ => []
  | o :: os, i => cond (Nat.beq (kindOf o.op) 2 == b) (i :: rowsOf b os (i + 1)) (rowsOf b os (i + 1))
def lateOrder (ops : Array Oper) : List Nat := (emitL ops 20000 (rowsOf false ops.toList 0 ++ rowsOf true ops.toList 0) []).reverse
def posTr : List Nat → Nat → Tr Nat → Tr Nat
  | [], _, T => T
  | i :: l, k, T => T.setK 40 i (some k) (posTr l (k + 1))
def permF (σ : List Nat) (i : Nat) : Nat := ((posTr σ 0 .e).get i).getD 0
def permG (σ : List Nat) (k : Nat) : Nat := σ.getD k 0
def permChk (ops : Array Oper) (σ : List Nat) : Bool :=
  Nat.beq σ.length ops.size && ((List.range ops.size).all fun i => Nat.blt (permF σ i) ops.size && Nat.beq (permG σ (permF σ i)) i) &&
  ((List.range ops.size).all fun k => Nat.blt (permG σ k) ops.size && Nat.beq (permF σ (permG σ k)) k) &&
  (ops.toList.all fun o => (o.after.toList.all fun e => !Region.binds .any e || Nat.blt e.on ops.size) && (match o.guard with | some (j, _) => Nat.blt j ops.size | none => true))
def sameN : List Nat → Nat → Bool
  | [], _ => true
  | x :: l, k => Nat.beq x k && sameN l (k + 1)
def permOps (ops : Array Oper) (σ : List Nat) : Array Oper :=
  cond (sameN σ 0) ops (cond (permChk ops σ) ⟨σ.map fun k => renumO (permF σ) (ops.getD k default)⟩ ops)
def lateOps (ops : Array Oper) : Array Oper :=
  cond (ops.toList.any fun o => Nat.beq (kindOf o.op) 2) (permOps ops (lateOrder ops)) ops
def stepD1 (C : Calls3) (rd : Bool) (ops : Array Oper) (s : St) : Option (Ex × St) :=
  cond (Nat.blt ops.size 1000 && s.h.ghost.isEmpty && Nat.blt s.h.next 1000000000)
    (match fwdX Z C rd ops ops.toList 0 s with
    | .ok rs sf =>
      (match masks ops.toList 0 .e, writers ops.toList 0 .e with
      | some A, some W =>
        cond (chkAll Z A W (rs.map (·.kind)) (lvos A (rs.map (·.kind)) (rs.map (·.kind)) 0) (rs.map (·.h) ++ [sf.h]) ops ops.toList rs 0) (some (.normal, sf)) none
      | _, _ => none)
    | .pan k => stepP Z C rd ops s k
    | .bad => none) none

/-! A region that draws, followed in all its orders at once: state by state of what is done, where two ways meet the same must be there. -/
inductive LogE where
  | d (i : Nat) (d : Delta)
  | c (i : Nat) (f : FuncId) (args : List Value)
structure AllE where
  L : Array Bool
  T : Tr Value
  h : Heap
  log : List LogE
def stepV (C : Calls3) (ops : Array Oper) (i : Nat) (o : Oper) (g : AllE) : Option AllE :=
  cond (!Nat.blt g.h.next 1000000000) none <|
  match wantedA o ops g.T with
  | none => none
  | some false => some ⟨g.L.setIfInBounds i true, putA g.T o.dst undef, g.h, g.log⟩
  | some true =>
    match doOpF Z (ev g.T) g.h o with
    | some (.val v .same) => some ⟨g.L.setIfInBounds i true, putA g.T o.dst v, g.h, g.log⟩
    | some (.val v d) => some ⟨g.L.setIfInBounds i true, putA g.T o.dst v, g.h.app d, .d i d :: g.log⟩
    | some (.enter f args) =>
      match C.fn f args g.h with
      | some (.ret v, h) => some ⟨g.L.setIfInBounds i true, putA g.T o.dst v, h, .c i f args :: g.log⟩
      | _ => none
    | _ => none
def sameTrV : Tr Value → Tr Value → Bool
  | .e, .e => true
  | .n none a b, .n none a' b' => sameTrV a a' && sameTrV b b'
  | .n (some v) a b, .n (some v') a' b' => sameV 6 v v' && sameTrV a a' && sameTrV b b'
  | _, _ => false
def sameVs : List Value → List Value → Bool
  | [], [] => true
  | a :: l, b :: m => sameV 6 a b && sameVs l m
  | _, _ => false
def sameOb : AObj → AObj → Bool
  | .cells c el fz g, .cells c' el' fz' g' => sameVs c c' && Nat.beq el el' && Nat.beq fz.1 fz'.1 && Nat.beq fz.2 fz'.2 && (g == g')
  | _, _ => false
def sameDl : Delta → Delta → Bool
  | .same, .same => true
  | .new o, .new o' => sameOb o o'
  | .set b o, .set b' o' => Nat.beq b b' && sameOb o o'
  | .grow b o, .grow b' o' => Nat.beq b b' && sameOb o o'
  | _, _ => false
def sameLE : LogE → LogE → Bool
  | .d i d, .d i' d' => Nat.beq i i' && sameDl d d'
  | .c i f a, .c i' f' a' => Nat.beq i i' && Nat.beq f f' && sameVs a a'
  | _, _ => false
def apartLE : LogE → LogE → Bool
  | .d _ (.set b _), .d _ (.set b' _) => !Nat.beq b b' && Nat.blt b 1000000000 && Nat.blt b' 1000000000
  | _, _ => false
def sameLog : List LogE → List LogE → Bool
  | [], [] => true
  | x :: l, y :: m => cond (sameLE x y) (sameLog l m)
      (match l, m with
      | x2 :: l', y2 :: m' => sameLE x y2 && sameLE x2 y && apartLE x x2 && sameLog l' m'
      | _, _ => false)
  | _, _ => false
def sameBs : List Bool → List Bool → Bool
  | [], [] => true
  | a :: l, b :: m => (a == b) && sameBs l m
  | _, _ => false
def insG (g : AllE) : List AllE → Option (List AllE)
  | [] => some [g]
  | x :: l => cond (sameBs x.L.toList g.L.toList) (cond (sameTrV x.T g.T && sameLog x.log g.log) (some (x :: l)) none) ((insG g l).map (x :: ·))
def nextI (C : Calls3) (ops : Array Oper) (g : AllE) : List Nat → List AllE → Option (List AllE)
  | [], lv => some lv
  | i :: is, lv =>
    match ops[i]? with
    | none => none
    | some o =>
      match stepV Z C ops i o g with
      | none => none
      | some g' =>
        match insG g' lv with
        | none => none
        | some lv' => nextI C ops g is lv'
def nextAll (C : Calls3) (ops : Array Oper) : List AllE → List AllE → Option (List AllE)
  | [], lv => some lv
  | g :: gs, lv =>
    match Region.ready .any ops g.L with
    | [] => none
    | i :: is =>
      match nextI Z C ops g (i :: is) lv with
      | none => none
      | some lv' => cond (Nat.blt lv'.length 40) (nextAll C ops gs lv') none
def runAll (C : Calls3) (ops : Array Oper) : Nat → List AllE → Option AllE
  | 0, lv => (match lv with
    | [g] => (match Region.ready .any ops g.L with | [] => some g | _ => none)
    | _ => none)
  | n + 1, lv =>
    match nextAll Z C ops lv [] with
    | none => none
    | some lv' => runAll C ops n lv'
def stepAll (C : Calls3) (ops : Array Oper) (s : St) : Option (Ex × St) :=
  cond (Nat.blt ops.size 60 && s.h.ghost.isEmpty && Nat.blt s.h.next 1000000000)
    (match runAll Z C ops ops.size [⟨Array.replicate ops.size false, s.T, s.h, []⟩] with
    | some g => cond (Nat.blt g.h.next 1000000000 && g.h.ghost.isEmpty) (some (.normal, ⟨g.T, g.h, s.ds⟩)) none
    | none => none) none

def stepD (C : Calls3) (rd : Bool) (ops : Array Oper) (s : St) : Option (Ex × St) :=
  match stepD1 Z C rd (lateOps ops) s with
  | some r => some r
  | none => stepAll Z C ops s

def iter (f : St → Option (Ex × St)) : Nat → St → Option (Ex × St)
  | 0, _ => none
  | n + 1, s =>
    match f s with
    | some (.normal, s') => iter f n s'
    | r => r

def run (fuel : Nat) (C : Calls3) (x : Ctx) : Code → St → Option (Ex × St)
  | .skip, s | .label _, s => some (.normal, s)
  | .region _ ops draw, s => cond draw (stepD Z C x.round ops s) (stepL Z C x.round ops ops.toList s)
  | .seq a b, s =>
    match run fuel C x a s with
    | some (.normal, s') => run fuel C x b s'
    | r => r
  | .cond c a b, s =>
    match ev s.T c with
    | .bool t => cond t (run fuel C x a s) (run fuel C x b s)
    | _ => none
  | .block id c, s =>
    match run fuel C x c s with
    | some (.exit i, s') => if i = id then some (.normal, s') else some (.exit i, s')
    | r => r
  | .loop c, s => iter (run fuel C x c) fuel s
  | .scope c, s => run fuel C x c s
  | .exit id, s => some (.exit id, s)
  | .ret, s => some (.ret, s)
  | .rangeFunc g ps assign body, s => do
    if x.round || !Nat.blt s.h.next 1000000000 then none else
    let .func (.func f) first cap := ev s.T g | none
    if (Z.fn f).isNone then none
    s.h.newK (.deferred (some [])) fun h1 => h1.newK (.loop .ready none x.fid s.T x.nt ps assign body s.h.next) fun h2 => do
    let ds2 : List Deferred := { target := .collected s.h.next, args := #[] } :: s.ds
    match ← C.fn f (first.toList ++ [.func (.yield h1.next) #[] #[]] ++ cap.toList) h2 with
    | (.pan v, h) => some (.panic v, ⟨s.T, h, ds2⟩)
    | (.ret _, h) =>
      let .loop st pend fid T nt ps a b d ← h.get h1.next | none
      if st = .busy then none
      h.setK h1.next (some (.loop .exhausted pend fid T nt ps a b d)) fun h' =>
      match pend with
      | none => some (.normal, ⟨s.T, h', ds2⟩)
      | some .ret => some (.ret, ⟨s.T, h', ds2⟩)
      | some (.exit id) => some (.exit id, ⟨s.T, h', ds2⟩)
      | some _ => none
  | _, _ => none

def resultOf (h : Heap) (T : Tr Value) : ResultVar → Option Value
  | .tmp t => T.get t
  | .cell a t => match T.get a with | some (.pointer (some ad)) => loadV Z h t ad | _ => none

def resultsOf (h : Heap) (T : Tr Value) (rs : List ResultVar) : Option Value :=
  match rs with
  | [r] => resultOf Z h T r
  | rs => (rs.mapM (resultOf Z h T)).map fun vs => .tuple vs.toArray

/-- How a frame leaves: its deferred calls, and then its results, or its panic. -/
def leave (C : Calls3) (fn : Func) (T : Tr Value) : List Deferred → Option Value → Heap → Option (Res × Heap)
  | [], none, h => (resultsOf Z h T fn.results.toList).map fun v => (.ret v, h)
  | [], some v, h => some (.pan v, h)
  | d :: ds, m, h =>
    match d.target with
    | .collected r =>
      if !Nat.ble Z.N0 r then none else
      match h.get r with
      | some (.deferred (some [])) => h.setK r (some (.deferred none)) fun h => leave C fn T ds m h
      | _ => none
    | .fn (.func f) cap =>
      if (Z.fn f).isNone then none else
      match C.df f (d.args.toList ++ cap.toList) m h with
      | some (rec, h') => leave C fn T ds (cond rec none m) h'
      | none => none
    | _ => none

/-- The body of a deferred function: where it recovers, step by step. -/
def stepS (ops : Array Oper) : List Oper → St → Option Value → Bool → Option (St × Bool)
  | [], s, _, rec => some (s, rec)
  | o :: rest, s, m, rec => do
    if !Nat.blt s.h.next 1000000000 then none else
    if ← wantedA o ops s.T then
      match ← doOp Z (ev s.T) s.h o with
      | .val v d => putK s.T o.dst v fun T => s.h.appK d fun h => stepS ops rest ⟨T, h, s.ds⟩ m rec
      | .recover =>
        match m, rec with
        | some v, false => putK s.T o.dst v fun T => stepS ops rest ⟨T, s.h, s.ds⟩ m true
        | _, _ => putK s.T o.dst .nilIface fun T => stepS ops rest ⟨T, s.h, s.ds⟩ m rec
      | _ => none
    else putK s.T o.dst undef fun T => stepS ops rest ⟨T, s.h, s.ds⟩ m rec

def hasRec (ops : Array Oper) : Bool := ops.any fun o => match o.op with | .call { callee := .builtin .recover, .. } => true | _ => false

def runS (fuel : Nat) (C : Calls3) (x : Ctx) (m : Option Value) : Code → St → Bool → Option (Ex × St × Bool)
  | .region id ops draw, s, rec =>
    if hasRec ops then (if draw then none else (stepS Z ops ops.toList s m rec).map fun r => (.normal, r.1, r.2))
    else (run Z fuel C x (.region id ops draw) s).map fun r => (r.1, r.2, rec)
  | .seq a b, s, rec =>
    match runS fuel C x m a s rec with
    | some (.normal, s', r') => runS fuel C x m b s' r'
    | r => r
  | .cond c a b, s, rec =>
    match ev s.T c with
    | .bool t => cond t (runS fuel C x m a s rec) (runS fuel C x m b s rec)
    | _ => none
  | c, s, rec => (run Z fuel C x c s).map fun r => (r.1, r.2, rec)

def setAllK {β : Type} : Tr Value → List Tmp → List Value → (Tr Value → β) → β
  | T, t :: ts, v :: vs, k => putK T (some t) v fun T => setAllK T ts vs k
  | T, _, _, k => k T

def enterK {β : Type} : List Value → Nat → Tr Value → (Tr Value → β) → β
  | [], _, T, k => k T
  | v :: vs, i, T, k => putK T (some i) v fun T => enterK vs (i + 1) T k

def calls (loopFuel : Nat) : Nat → Calls3
  | 0 => Calls3.none
  | n + 1 =>
    let C := calls loopFuel n
    { fn := fun f args h => do
        let fn ← Z.fn f
        let c ← fn.body
        if fn.ntmps < args.length then none
        let (e, s) ← enterK args 0 .e fun T => run Z loopFuel C ⟨f, fn.ntmps, false⟩ c ⟨T, h, []⟩
        match e with
        | .normal | .ret => leave Z C fn s.T s.ds none s.h
        | .panic v => leave Z C fn s.T s.ds (some v) s.h
        | .exit _ => none
      rd := fun l args h => do
        if !Nat.ble Z.N0 l then none
        let .loop _ _ fid T nt ps assign body _ ← h.get l | none
        if args.length ≠ ps.size then none
        let (.normal, s) ← setAllK T ps.toList args fun T' => run Z loopFuel C ⟨fid, nt, true⟩ assign ⟨T', h, []⟩ | none
        let .loop .ready pend fid2 T2 nt2 ps2 a2 b2 d2 ← s.h.get l | none
        let (e, s2) ← s.h.setK l (some (.loop .busy pend fid2 T2 nt2 ps2 a2 b2 d2)) fun h => run Z loopFuel C ⟨fid, nt, true⟩ body ⟨s.T, h, s.ds⟩
        let .loop _ _ fid3 T3 nt3 ps3 a3 b3 d3 ← s2.h.get l | none
        match e with
        | .normal => s2.h.setK l (some (.loop .ready none fid3 T3 nt3 ps3 a3 b3 d3)) fun h => some (.bool true, h)
        | .ret => s2.h.setK l (some (.loop .done (some .ret) fid3 T3 nt3 ps3 a3 b3 d3)) fun h => some (.bool false, h)
        | .exit id => s2.h.setK l (some (.loop .done (some (.exit id)) fid3 T3 nt3 ps3 a3 b3 d3)) fun h => some (.bool false, h)
        | .panic _ => none
      df := fun f args m h => do
        let fn ← Z.fn f
        let c ← fn.body
        if fn.ntmps < args.length then none
        let (e, s, rec) ← enterK args 0 .e fun T => runS Z loopFuel C ⟨f, fn.ntmps, false⟩ m c ⟨T, h, []⟩ false
        match e, s.ds with
        | .normal, [] | .ret, [] => (resultsOf Z s.h s.T fn.results.toList).map fun _ => (rec, s.h)
        | _, _ => none }
end Go.Eng

namespace Go.Eng

namespace Tr
variable {α : Type}
theorem setK_eq (f : Nat) : ∀ {β : Type} (t : Tr α) (k : Nat) (x : Option α) (c : Tr α → β), setK f t k x c = c (setK f t k x id) := by
  induction f with
  | zero => intro β t k x c; rw [setK_zero, setK_zero]; rfl
  | succ f ih =>
    intro β t k x c
    simp only [setK_succ]
    cases Nat.beq k 0
    · cases Nat.beq (k % 2) 1
      · exact (ih _ _ _ _).trans (congrArg c (ih t.rgt (k / 2 - 1) x (fun r => id (Tr.n t.val t.lft r))).symm)
      · exact (ih _ _ _ _).trans (congrArg c (ih t.lft (k / 2) x (fun l => id (Tr.n t.val l t.rgt))).symm)
    · rfl
theorem get_n (v : Option α) (l r : Tr α) (k : Nat) :
    (Tr.n v l r).get k = if k = 0 then v else if k % 2 = 1 then l.get (k / 2) else r.get (k / 2 - 1) := by
  rw [get_n']
  by_cases h : k = 0
  · subst h; rfl
  · have h1 : Nat.beq k 0 = false := by cases hb : Nat.beq k 0 with
      | false => rfl
      | true => exact absurd (Nat.eq_of_beq_eq_true hb) h
    rw [h1, if_neg h]
    simp only [cond]
    by_cases h2 : k % 2 = 1
    · rw [h2, if_pos rfl]
    · have h3 : Nat.beq (k % 2) 1 = false := by cases hb : Nat.beq (k % 2) 1 with
        | false => rfl
        | true => exact absurd (Nat.eq_of_beq_eq_true hb) h2
      rw [h3, if_neg h2]
theorem get_parts (t : Tr α) (k : Nat) : t.get k = if k = 0 then t.val else if k % 2 = 1 then t.lft.get (k / 2) else t.rgt.get (k / 2 - 1) := by
  cases t with
  | e => simp [get_e, val, lft, rgt]
  | n v l r => exact get_n v l r k
theorem get_setK (f : Nat) : ∀ (t : Tr α) (k : Nat) (x : Option α) (j : Nat), k + 1 < 2 ^ f → (setK f t k x id).get j = if j = k then x else t.get j := by
  induction f with
  | zero => intro t k x j h; simp at h
  | succ f ih =>
    intro t k x j h
    have hp : 2 ^ (f + 1) = 2 * 2 ^ f := by rw [Nat.pow_succ]; omega
    simp only [setK_succ]
    by_cases h0 : k = 0
    · subst h0
      simp only [Nat.beq, cond, id, get_n]
      by_cases hj : j = 0
      · subst hj; simp
      · simp [hj, get_parts t j]
    · have h1 : Nat.beq k 0 = false := by cases hb : Nat.beq k 0 with
        | false => rfl
        | true => exact absurd (Nat.eq_of_beq_eq_true hb) h0
      rw [h1]; simp only [cond]
      by_cases h2 : k % 2 = 1
      · rw [h2, show Nat.beq 1 1 = true from rfl]; simp only [cond]
        rw [setK_eq]; simp only [id, get_n]
        rw [ih _ _ _ _ (by omega), get_parts t j]
        by_cases hj : j = 0
        · subst hj; rw [if_pos rfl, if_neg (by omega), if_pos rfl]
        · simp only [hj, if_false]
          by_cases hj2 : j % 2 = 1
          · simp only [hj2, if_true]
            by_cases hjk : j = k
            · subst hjk; simp
            · rw [if_neg hjk, if_neg (by omega)]
          · simp only [hj2, if_false]; rw [if_neg (by omega)]
      · have h3 : Nat.beq (k % 2) 1 = false := by cases hb : Nat.beq (k % 2) 1 with
          | false => rfl
          | true => exact absurd (Nat.eq_of_beq_eq_true hb) h2
        rw [h3]; simp only [cond]
        rw [setK_eq]; simp only [id, get_n]
        rw [ih _ _ _ _ (by omega), get_parts t j]
        by_cases hj : j = 0
        · subst hj; rw [if_pos rfl, if_neg (by omega), if_pos rfl]
        · simp only [hj, if_false]
          by_cases hj2 : j % 2 = 1
          · simp only [hj2, if_true]; rw [if_neg (by omega)]
          · simp only [hj2, if_false]
            by_cases hjk : j = k
            · subst hjk; simp
            · rw [if_neg hjk, if_neg (by omega)]
theorem get_set (t : Tr α) (k : Nat) (x : Option α) (j : Nat) (h : k + 1 < 2 ^ 40) : (t.set k x).get j = if j = k then x else t.get j := get_setK 40 t k x j h
end Tr

theorem forceNat_eq {β : Type} (n : Nat) (k : Nat → β) : forceNat n k = k n := by cases n <;> rfl
theorem forceInt_eq {β : Type} (n : Int) (k : Int → β) : forceInt n k = k n := by cases n <;> simp [forceInt, forceNat_eq]
theorem forceAddr_eq {β : Type} (a : Addr) (k : Addr → β) : forceAddr a k = k a := by simp [forceAddr, forceNat_eq]
theorem forceList_eq {α β : Type} (f : α → (α → β) → β) (hf : ∀ x k, f x k = k x) : ∀ (n : Nat) (l : List α) (k : List α → β), forceList f n l k = k l := by
  intro n
  induction n with
  | zero => intro l k; rfl
  | succ n ih => intro l k; cases l with
    | nil => rfl
    | cons x l => simp [forceList, hf, ih]
theorem forceV_eq {β : Type} : ∀ (n : Nat) (v : Value) (k : Value → β), forceV n v k = k v := by
  intro n
  induction n with
  | zero => intro v k; rfl
  | succ n ih =>
    intro v k
    unfold forceV
    split
    · rename_i b; cases b <;> rfl
    · rw [forceInt_eq]
    · rw [forceAddr_eq]
    · rw [forceAddr_eq, forceNat_eq, forceNat_eq]
    · rw [forceNat_eq, forceNat_eq]
    · rw [forceList_eq _ (fun _ _ => rfl)]
    · rw [ih]
    · rw [forceList_eq _ ih]
    · rw [forceList_eq _ ih]
    · rw [forceList_eq _ ih, forceList_eq _ ih]
    · rfl
theorem forceME_eq {β : Type} (x : MapEntry) (k : MapEntry → β) : forceME x k = k x := by simp only [forceME, forceV_eq, forceNat_eq]
theorem forceRow_eq {β : Type} (o : AObj) (k : AObj → β) : forceRow o k = k o := by
  cases o with
  | cells c el fz g => simp only [forceRow]; rw [forceList_eq _ (fun _ _ => rfl)]
  | map es cl => simp only [forceRow]; rw [forceList_eq _ forceME_eq, forceNat_eq]
  | loop => rfl
  | deferred => rfl
theorem forceObj_eq {β : Type} (o : AObj) (k : AObj → β) : forceObj o k = k o := by
  cases o with
  | cells c el fz g => simp only [forceObj]; rw [forceList_eq _ (forceV_eq 4)]
  | map es cl => simp only [forceObj]; rw [forceList_eq _ forceME_eq, forceNat_eq]
  | loop => rfl
  | deferred => rfl
theorem putK_eq {β : Type} (T : Tr Value) (d : Option Tmp) (v : Value) (k : Tr Value → β) : putK T d v k = k (putA T d v) := by
  cases d with
  | none => rfl
  | some d => simp only [putK, putA]; rw [forceV_eq, Tr.setK_eq]; rfl
theorem Heap.elimK_eq {β : Type} (h : Heap) (k : Tr AObj → Nat → List Nat → β) : h.elimK k = k h.m h.next h.ghost := by cases h; rfl
theorem St.elimK_eq {β : Type} (s : St) (k : Tr Value → Heap → List Deferred → β) : s.elimK k = k s.T s.h s.ds := by cases s; rfl
theorem Heap.setK_eq {β : Type} (h : Heap) (b : Nat) (o : Option AObj) (k : Heap → β) : h.setK b o k = k (h.set b o) := by
  unfold Heap.setK
  rw [Heap.elimK_eq, Tr.setK_eq]
  unfold Heap.set Tr.set
  exact Eq.refl _
theorem Heap.newK_eq {β : Type} (h : Heap) (o : AObj) (k : Heap → β) : h.newK o k = k (h.new o) := by
  unfold Heap.newK
  rw [forceObj_eq, Heap.elimK_eq, Tr.setK_eq, forceNat_eq]
  unfold Heap.new Tr.set
  exact Eq.refl _
theorem Heap.appK_eq {β : Type} (h : Heap) (d : Delta) (k : Heap → β) : h.appK d k = k (h.app d) := by
  cases d with
  | same => cases h; rfl
  | new o => exact Heap.newK_eq h o k
  | set b o => simp only [Heap.appK, Heap.app]; rw [forceRow_eq, Heap.setK_eq]
  | grow b o => simp only [Heap.appK, Heap.app]; rw [Heap.setK_eq, Heap.newK_eq]

/-! ### Renaming -/
structure Env where
  ρ : Nat → Nat
  σ : Nat → Nat

/-- How far into its block a place lies that is only handed about (a sentinel's). -/
class Shift where
  δ : Nat → Nat
variable [Shift]
def Env.addr (e : Env) (a : Addr) : Addr := { a with block := e.ρ a.block, off := a.off + Shift.δ a.block }
def renFn (e : Env) : Fn → Fn
  | .yield l => .yield (e.ρ l)
  | f => f
def ren (e : Env) : Value → Value
  | .pointer (some a) => .pointer (some (e.addr a))
  | .slice (some a) l c => .slice (some (e.addr a)) l (c + e.σ a.block)
  | .map (some r) => .map (some (e.ρ r))
  | .chan (some r) => .chan (some (e.ρ r))
  | .func fn a b => .func (renFn e fn) (a.map (ren e)) (b.map (ren e))
  | .iface t v => .iface t (ren e v)
  | .agg cs => .agg (cs.map (ren e))
  | .tuple cs => .tuple (cs.map (ren e))
  | v => v

variable {e e' : Env}
@[simp] theorem ren_bool (b : Bool) : ren e (.bool b) = .bool b := by simp [ren]
@[simp] theorem ren_int (k : IntKind) (n : Int) : ren e (.int k n) = .int k n := by simp [ren]
@[simp] theorem ren_string (s : ByteArray) : ren e (.string s) = .string s := by simp [ren]
@[simp] theorem ren_float (k : FloatKind) (n : Nat) : ren e (.float k n) = .float k n := by simp [ren]
@[simp] theorem ren_complex (k : FloatKind) (n m : Nat) : ren e (.complex k n m) = .complex k n m := by simp [ren]
@[simp] theorem ren_ptr (a : Addr) : ren e (.pointer (some a)) = .pointer (some (e.addr a)) := by simp [ren]
@[simp] theorem ren_nilptr : ren e (.pointer none) = .pointer none := by simp [ren]
@[simp] theorem ren_slice (a : Addr) (l c : Nat) : ren e (.slice (some a) l c) = .slice (some (e.addr a)) l (c + e.σ a.block) := by simp [ren]
@[simp] theorem ren_nilslice (l c : Nat) : ren e (.slice none l c) = .slice none l c := by simp [ren]
@[simp] theorem ren_map (r : Nat) : ren e (.map (some r)) = .map (some (e.ρ r)) := by simp [ren]
@[simp] theorem ren_nilmap : ren e (.map none) = .map none := by simp [ren]
@[simp] theorem ren_chan (r : Nat) : ren e (.chan (some r)) = .chan (some (e.ρ r)) := by simp [ren]
@[simp] theorem ren_nilchan : ren e (.chan none) = .chan none := by simp [ren]
@[simp] theorem ren_func (fn : Fn) (a b : Array Value) : ren e (.func fn a b) = .func (renFn e fn) (a.map (ren e)) (b.map (ren e)) := by simp [ren]
@[simp] theorem ren_nilFunc : ren e .nilFunc = .nilFunc := by simp [ren]
@[simp] theorem ren_nilIface : ren e .nilIface = .nilIface := by simp [ren]
@[simp] theorem ren_iface (t : TypeId) (v : Value) : ren e (.iface t v) = .iface t (ren e v) := by simp [ren]
@[simp] theorem ren_agg (cs : Array Value) : ren e (.agg cs) = .agg (cs.map (ren e)) := by simp [ren]
@[simp] theorem ren_tuple (cs : Array Value) : ren e (.tuple cs) = .tuple (cs.map (ren e)) := by simp [ren]
@[simp] theorem ren_undef : ren e undef = undef := by simp [undef]

/-- Two renamings that are the same at some numbers. -/
def Agree (D : Nat → Prop) (e e' : Env) : Prop := ∀ b, D b → e.ρ b = e'.ρ b ∧ e.σ b = e'.σ b
theorem Agree.refl (D : Nat → Prop) (e : Env) : Agree D e e := fun _ _ => ⟨rfl, rfl⟩
theorem Agree.symm {D : Nat → Prop} {e e' : Env} (h : Agree D e e') : Agree D e' e := fun b hb => ⟨(h b hb).1.symm, (h b hb).2.symm⟩
theorem Agree.trans {D D' : Nat → Prop} {e e' e'' : Env} (h : Agree D e e') (h' : Agree D' e' e'') (hle : ∀ b, D b → D' b) : Agree D e e'' :=
  fun b hb => ⟨(h b hb).1.trans (h' b (hle b hb)).1, (h b hb).2.trans (h' b (hle b hb)).2⟩
theorem Agree.mono {D D' : Nat → Prop} {e e' : Env} (h : Agree D e e') (hle : ∀ b, D' b → D b) : Agree D' e e' := fun b hb => h b (hle b hb)
/-- A value speaks of such blocks alone. -/
def Und (D : Nat → Prop) (v : Value) : Prop := ∀ e e', Agree D e e' → ren e v = ren e' v
theorem Und.mono {D D' : Nat → Prop} {v : Value} (h : Und D v) (hle : ∀ b, D b → D' b) : Und D' v := fun e e' ha => h e e' (ha.mono hle)
theorem Und.eq {D : Nat → Prop} {v : Value} (h : Und D v) (ha : Agree D e e') : ren e v = ren e' v := h e e' ha
theorem map_ren_congr {D : Nat → Prop} {l : List Value} (h : ∀ v ∈ l, Und D v) (ha : Agree D e e') : l.map (ren e) = l.map (ren e') :=
  List.map_congr_left fun v hv => (h v hv).eq ha

theorem ren_plain : ∀ (n : Nat) (v : Value), plain n v = true → ren e v = v := by
  intro n
  induction n with
  | zero =>
    intro v h
    unfold plain at h
    split at h <;> simp_all
  | succ n ih =>
    intro v h
    have hl : ∀ (l : Array Value), l.toList.all (plain n) = true → l.map (ren e) = l := by
      intro l hl
      apply Array.ext'
      rw [Array.toList_map]
      conv => rhs; rw [← List.map_id l.toList]
      exact List.map_congr_left fun v hv => ih v (by rw [List.all_eq_true] at hl; exact hl v hv)
    unfold plain at h
    split at h <;> simp_all [renFn]
theorem und_plain {n : Nat} {D : Nat → Prop} {v : Value} (h : plain n v = true) : Und D v := fun e e' _ => by rw [ren_plain n v h, ren_plain n v h]
theorem und_bool {n : Nat → Prop} (b : Bool) : Und n (.bool b) := fun _ _ _ => by simp
theorem und_int {n : Nat → Prop} (k : IntKind) (i : Int) : Und n (.int k i) := fun _ _ _ => by simp
theorem und_string {n : Nat → Prop} (s : ByteArray) : Und n (.string s) := fun _ _ _ => by simp
theorem und_undef {n : Nat → Prop} : Und n undef := fun _ _ _ => by simp
theorem und_nilIface {n : Nat → Prop} : Und n .nilIface := fun _ _ _ => by simp
theorem und_ptr {n : Nat → Prop} {a : Addr} (h : n a.block) : Und n (.pointer (some a)) := fun e e' ha => by simp [Env.addr, (ha _ h).1]
theorem und_slice {n : Nat → Prop} {a : Addr} {l c : Nat} (h : n a.block) : Und n (.slice (some a) l c) := fun e e' ha => by simp [Env.addr, (ha _ h).1, (ha _ h).2]
theorem und_nilslice {n : Nat → Prop} {l c : Nat} : Und n (.slice none l c) := fun _ _ _ => by simp
theorem und_iface {n : Nat → Prop} {t : TypeId} {v : Value} (h : Und n v) : Und n (.iface t v) := fun e e' ha => by simp [h.eq ha]
theorem und_iface_inv {n : Nat → Prop} {t : TypeId} {v : Value} (h : Und n (.iface t v)) : Und n v := fun e e' ha => by have := h e e' ha; simpa using this
theorem und_arr {n : Nat → Prop} {cs : Array Value} (h : ∀ v ∈ cs, Und n v) (ha : Agree n e e') : cs.map (ren e) = cs.map (ren e') :=
  Array.map_congr_left fun v hv => (h v hv).eq ha
theorem und_agg {n : Nat → Prop} {cs : Array Value} (h : ∀ v ∈ cs, Und n v) : Und n (.agg cs) := fun e e' ha => by simp only [ren_agg, und_arr h ha]
theorem und_tuple {n : Nat → Prop} {cs : Array Value} (h : ∀ v ∈ cs, Und n v) : Und n (.tuple cs) := fun e e' ha => by simp only [ren_tuple, und_arr h ha]
theorem mem_of_map_eq {f g : Value → Value} {cs : Array Value} (h : cs.map f = cs.map g) : ∀ v ∈ cs, f v = g v := by
  intro v hv
  have h' : cs.toList.map f = cs.toList.map g := by simpa using congrArg Array.toList h
  exact List.map_inj_left.1 h' v (by simpa using hv)
theorem und_agg_inv {n : Nat → Prop} {cs : Array Value} (h : Und n (.agg cs)) : ∀ v ∈ cs, Und n v :=
  fun v hv e e' ha => mem_of_map_eq (by have := h e e' ha; simpa only [ren_agg, Value.agg.injEq] using this) v hv
theorem und_tuple_inv {n : Nat → Prop} {cs : Array Value} (h : Und n (.tuple cs)) : ∀ v ∈ cs, Und n v :=
  fun v hv e e' ha => mem_of_map_eq (by have := h e e' ha; simpa only [ren_tuple, Value.tuple.injEq] using this) v hv
theorem und_func {n : Nat → Prop} {fn : Fn} {a b : Array Value} (hf : ∀ e e', Agree n e e' → renFn e fn = renFn e' fn) (ha : ∀ v ∈ a, Und n v) (hb : ∀ v ∈ b, Und n v) : Und n (.func fn a b) :=
  fun e e' h => by simp only [ren_func, und_arr ha h, und_arr hb h, hf e e' h]
theorem und_func_inv {n : Nat → Prop} {fn : Fn} {a b : Array Value} (h : Und n (.func fn a b)) :
    (∀ e e', Agree n e e' → renFn e fn = renFn e' fn) ∧ (∀ v ∈ a, Und n v) ∧ (∀ v ∈ b, Und n v) := by
  have h' : ∀ e e', Agree n e e' → renFn e fn = renFn e' fn ∧ a.map (ren e) = a.map (ren e') ∧ b.map (ren e) = b.map (ren e') :=
    fun e e' ha => by have := h e e' ha; simpa only [ren_func, Value.func.injEq] using this
  exact ⟨fun e e' ha => (h' e e' ha).1, fun v hv e e' ha => mem_of_map_eq (h' e e' ha).2.1 v hv, fun v hv e e' ha => mem_of_map_eq (h' e e' ha).2.2 v hv⟩
theorem und_of_eq {n : Nat → Prop} {v : Value} (f : Value → Value) (x : Value) (hx : Und n x) (h : ∀ e, ren e v = f (ren e x)) : Und n v :=
  fun e e' ha => by rw [h, h, hx.eq ha]
end Go.Eng

namespace Go.Eng
variable [Shift]

def renT (e : Env) : Target → Target
  | .fn f c => .fn (renFn e f) (c.map (ren e))
  | .collected r => .collected (e.ρ r)
  | t => t
def renD (e : Env) (d : Deferred) : Deferred := { target := renT e d.target, args := d.args.map (ren e) }
def DUnd (n : Nat → Prop) (d : Deferred) : Prop := ∀ e e', Agree n e e' → renD e d = renD e' d
theorem DUnd.mono {n m : Nat → Prop} {d : Deferred} (h : DUnd n d) (hle : ∀ b, n b → m b) : DUnd m d := fun e e' ha => h e e' (ha.mono hle)

/-- The temporaries of a frame. -/
def TRel (e : Env) (nt : Nat) (T : Tr Value) (arr : Array Value) : Prop := arr.size = nt ∧ ∀ t v, T.get t = some v → arr[t]? = some (ren e v)
def TUnd (n : Nat → Prop) (T : Tr Value) : Prop := ∀ t v, T.get t = some v → Und n v

/-- The parameters of a relation: the program, how many blocks are its variables', from which number on blocks may be written, how many real blocks were there. -/
structure Par where
  P : Program
  G : Nat
  N0 : Nat
  B : Nat

def renM (e : Env) (x : MapEntry) : MapEntry := { key := ren e x.key, val := ren e x.val, born := x.born }
def ORel (p : Par) (e : Env) (b : Nat) : AObj → Obj → Prop
  | .cells c el fz g, r => ∃ tail el' fz', r = .cells ((c.map (ren e)).toArray ++ tail) el' fz' ∧ (g = false → tail = #[] ∧ e.σ b = 0) ∧
      (p.N0 ≤ b → el' = el ∧ (fz' = fz ∨ (fz ≠ (0, 0) ∧ c.length ≤ fz.1 ∧ c.length ≤ fz'.1))) ∧ (g = true → ∃ i, p.P.info? el = some i ∧ tail.size = e.σ b * i.size)
  | .loop st pend _ T nt ps a bd d, r => ∃ arr fn, r = .loop { state := st, pending := pend, fn := fn, tmps := arr, params := ps, assign := a, body := bd, defers := e.ρ d } ∧ TRel e nt T arr
  | .deferred d, r => r = .deferred (d.map (·.map (renD e)))
  | .map es cl, r => r = .map (es.map (renM e)).toArray cl

def OUnd (p : Par) (n : Nat → Prop) : AObj → Prop
  | .cells c _ _ _ => ∀ v ∈ c, Und n v
  | .loop _ _ _ T nt ps a bd d => TUnd n T ∧ n d ∧ cOk p.G nt a = true ∧ cOk p.G nt bd = true ∧ nt ≤ 2 ^ 30 ∧ ∀ q ∈ ps.toList, q < nt
  | .deferred d => ∀ l, d = some l → ∀ x ∈ l, DUnd n x
  | .map es _ => ∀ x ∈ es, Und n x.key ∧ Und n x.val

/-- The blocks of which what is followed may speak. -/
def Heap.D (h : Heap) (b : Nat) : Prop := b < h.next ∧ b ∉ h.ghost

structure Rel (p : Par) (e : Env) (H : Heap) (w : World) : Prop where
  obj : ∀ b o, H.get b = some o → ∃ r, w.heap[e.ρ b]? = some r ∧ ORel p e b o r
  und : ∀ b o, H.get b = some o → OUnd p H.D o
  lt : ∀ b o, H.get b = some o → H.D b
  inj : ∀ b b' o o', H.get b = some o → H.get b' = some o' → e.ρ b = e.ρ b' → b = b'
  glo : ∀ g, g < p.G → e.ρ g = g ∧ e.σ g = 0
  own : ∀ b o, H.get b = some o → p.N0 ≤ b → p.B ≤ e.ρ b
  siz : p.B ≤ w.heap.size
  nxt : p.N0 ≤ H.next
  gn : p.G ≤ p.N0
  sml : H.next + 1 < 2 ^ 40
  gst : ∀ b, b ∈ H.ghost → p.N0 ≤ b ∧ b < H.next
  fix : ∀ b, b < p.N0 → e.ρ b < p.B
  sft : ∀ b, Shift.δ b ≠ 0 → p.G ≤ b ∧ b < p.N0 ∧ H.get b = none

def Own (p : Par) (e : Env) (H : Heap) (r : Nat) : Prop := ∃ b o, H.get b = some o ∧ p.N0 ≤ b ∧ e.ρ b = r

/-- What comes of a followed step. -/
structure Step (p : Par) (e : Env) (H : Heap) (w : World) (e' : Env) (H' : Heap) (w' : World) : Prop where
  agree : Agree H.D e e'
  le : H.next ≤ H'.next
  gho : H'.ghost = H.ghost
  rel : Rel p e' H' w'
  size : w.heap.size ≤ w'.heap.size
  keep : ∀ r, r < w.heap.size → ¬ Own p e H r → w'.heap[r]? = w.heap[r]?
  own : ∀ r, Own p e' H' r → Own p e H r ∨ w.heap.size ≤ r
  tape : w'.tape = w.tape
  os : w'.os = w.os
  output : w'.output = w.output

variable {p : Par} {e e' e'' : Env} {H H' H'' : Heap} {w w' w'' : World}
theorem Heap.D_mono (hle : H.next ≤ H'.next) (hg : H'.ghost = H.ghost) : ∀ b, H.D b → H'.D b := fun b hb => ⟨Nat.lt_of_lt_of_le hb.1 hle, by rw [hg]; exact hb.2⟩
theorem Step.sub (h : Step p e H w e' H' w') : ∀ b, H.D b → H'.D b := Heap.D_mono h.le h.gho
theorem Rel.gloD (h : Rel p e H w) {g : Nat} (hg : g < p.G) : H.D g := by
  have := h.nxt; have := h.gn
  exact ⟨by omega, fun hb => by have := h.gst _ hb; omega⟩
theorem Rel.lowD (h : Rel p e H w) {g : Nat} (hg : g < p.N0) : H.D g := by
  have := h.nxt
  exact ⟨by omega, fun hb => by have := h.gst _ hb; omega⟩
theorem Rel.shift (h : Rel p e H w) {b : Nat} {o : AObj} (hb : H.get b = some o) : Shift.δ b = 0 := by
  by_cases hd : Shift.δ b = 0
  · exact hd
  · rw [(h.sft b hd).2.2] at hb; cases hb
theorem Rel.shiftG (h : Rel p e H w) {b : Nat} (hb : b < p.G) : Shift.δ b = 0 := by
  by_cases hd : Shift.δ b = 0
  · exact hd
  · have := (h.sft b hd).1; omega
theorem Rel.shiftN (h : Rel p e H w) {b : Nat} (hb : p.N0 ≤ b) : Shift.δ b = 0 := by
  by_cases hd : Shift.δ b = 0
  · exact hd
  · have := (h.sft b hd).2.1; omega
theorem Rel.addr (h : Rel p e H w) {a : Addr} {o : AObj} (hb : H.get a.block = some o) : e.addr a = { a with block := e.ρ a.block } := by
  simp [Env.addr, h.shift hb]
theorem Rel.addrN (h : Rel p e H w) (e' : Env) {b : Nat} (hb : p.N0 ≤ b) : e'.addr ⟨b, 0, none⟩ = ⟨e'.ρ b, 0, none⟩ := by
  simp [Env.addr, h.shiftN hb]
theorem Rel.newAddr (h : Rel p e H w) (e' : Env) : e'.addr ⟨H.next, 0, none⟩ = ⟨e'.ρ H.next, 0, none⟩ := h.addrN e' h.nxt
theorem Rel.newD (h : Rel p e H w) : H.next < H.next + 1 ∧ H.next ∉ H.ghost := ⟨Nat.lt_succ_self _, fun hb => Nat.lt_irrefl _ (h.gst _ hb).2⟩
theorem Step.refl (h : Rel p e H w) : Step p e H w e H w :=
  ⟨.refl _ _, Nat.le_refl _, rfl, h, Nat.le_refl _, fun _ _ _ => rfl, fun _ h => .inl h, rfl, rfl, rfl⟩
theorem Step.trans (h : Step p e H w e' H' w') (k : Step p e' H' w' e'' H'' w'') : Step p e H w e'' H'' w'' where
  agree := h.agree.trans k.agree h.sub
  le := Nat.le_trans h.le k.le
  gho := k.gho.trans h.gho
  rel := k.rel
  size := Nat.le_trans h.size k.size
  keep r hr ho := by
    have ho' : ¬ Own p e' H' r := fun hx => (h.own r hx).elim ho (fun hle => by omega)
    rw [k.keep r (Nat.lt_of_lt_of_le hr h.size) ho', h.keep r hr ho]
  own r hr := by
    rcases k.own r hr with h1 | h1
    · exact h.own r h1
    · exact .inr (Nat.le_trans h.size h1)
  tape := k.tape.trans h.tape
  os := k.os.trans h.os
  output := k.output.trans h.output

theorem Rel.drew (h : Rel p e H w) : Rel p e H w.drew := ⟨h.obj, h.und, h.lt, h.inj, h.glo, h.own, h.siz, h.nxt, h.gn, h.sml, h.gst, h.fix, h.sft⟩
theorem Step.drew (h : Rel p e H w) : Step p e H w e H w.drew :=
  ⟨.refl _ _, Nat.le_refl _, rfl, h.drew, Nat.le_refl _, fun _ _ _ => rfl, fun _ h => .inl h, rfl, rfl, rfl⟩

theorem TRel.agree {nt : Nat} {T : Tr Value} {arr : Array Value} {n : Nat → Prop} (h : TRel e nt T arr) (hu : TUnd n T) (ha : Agree n e e') : TRel e' nt T arr :=
  ⟨h.1, fun t v hv => by rw [h.2 t v hv, (hu t v hv).eq ha]⟩
theorem TUnd.mono {n m : Nat → Prop} {T : Tr Value} (h : TUnd n T) (hle : ∀ b, n b → m b) : TUnd m T := fun t v hv => (h t v hv).mono hle

theorem ORel.agree {b : Nat} {n : Nat → Prop} {o : AObj} {r : Obj} (h : ORel p e b o r) (hu : OUnd p n o) (hb : n b) (ha : Agree n e e') : ORel p e' b o r := by
  cases o with
  | cells c el fz g =>
    obtain ⟨tail, el', fz', rfl, h1, h2, h3⟩ := h
    refine ⟨tail, el', fz', by rw [map_ren_congr hu ha], fun hg => ?_, h2, fun hg => ?_⟩
    · rw [← (ha b hb).2]; exact h1 hg
    · rw [← (ha b hb).2]; exact h3 hg
  | loop st pend fid T nt ps a bd d =>
    obtain ⟨arr, fn, rfl, ht⟩ := h
    exact ⟨arr, fn, by rw [(ha d hu.2.1).1], ht.agree hu.1 ha⟩
  | deferred d =>
    simp only [ORel] at h ⊢
    subst h
    cases d with
    | none => rfl
    | some l =>
      simp only [Option.map_some]
      rw [List.map_congr_left fun x hx => hu l rfl x hx _ _ ha]
  | map es cl =>
    simp only [ORel] at h ⊢
    subst h
    rw [show es.map (renM e) = es.map (renM e') from List.map_congr_left fun x hx => by
      simp only [renM, (hu x hx).1.eq ha, (hu x hx).2.eq ha]]
theorem OUnd.mono {n m : Nat → Prop} {o : AObj} (h : OUnd p n o) (hle : ∀ b, n b → m b) : OUnd p m o := by
  cases o with
  | cells c el fz g => exact fun v hv => (h v hv).mono hle
  | loop st pend fid T nt ps a bd d => exact ⟨h.1.mono hle, hle _ h.2.1, h.2.2.1, h.2.2.2.1, h.2.2.2.2⟩
  | deferred d => exact fun l hl x hx => (h l hl x hx).mono hle
  | map es cl => exact fun x hx => ⟨(h x hx).1.mono hle, (h x hx).2.mono hle⟩

@[simp] theorem Heap.get_new (h : Heap) (o : AObj) (b : Nat) (hs : h.next + 1 < 2 ^ 40) : (h.new o).get b = if b = h.next then some o else h.get b := Tr.get_set _ _ _ _ hs
theorem Heap.get_set (h : Heap) (b' : Nat) (o : Option AObj) (b : Nat) (hs : b' + 1 < 2 ^ 40) : (h.set b' o).get b = if b = b' then o else h.get b := Tr.get_set _ _ _ _ hs
@[simp] theorem Heap.next_new (h : Heap) (o : AObj) : (h.new o).next = h.next + 1 := rfl
@[simp] theorem Heap.ghost_new (h : Heap) (o : AObj) : (h.new o).ghost = h.ghost := rfl
@[simp] theorem Heap.ghost_set (h : Heap) (b : Nat) (o : Option AObj) : (h.set b o).ghost = h.ghost := rfl
@[simp] theorem Heap.next_set (h : Heap) (b : Nat) (o : Option AObj) : (h.set b o).next = h.next := rfl

/-- The renaming with one block more. -/
def Env.more (e : Env) (n r s : Nat) : Env := ⟨fun b => if b = n then r else e.ρ b, fun b => if b = n then s else e.σ b⟩
theorem Env.more_agree' (e : Env) (n r s : Nat) {D : Nat → Prop} (h : ¬ D n) : Agree D e (e.more n r s) := fun b hb => by
  have : b ≠ n := fun heq => h (heq ▸ hb)
  simp [Env.more, this]
theorem Env.more_agree (e : Env) (H : Heap) (r s : Nat) : Agree H.D e (e.more H.next r s) := e.more_agree' _ _ _ fun h => Nat.lt_irrefl _ h.1
@[simp] theorem Env.more_ρ (e : Env) (n r s : Nat) : (e.more n r s).ρ n = r := by simp [Env.more]
@[simp] theorem Env.more_σ (e : Env) (n r s : Nat) : (e.more n r s).σ n = s := by simp [Env.more]

theorem alloc_heap (w : World) (r : Obj) : (w.alloc r).heap = w.heap.push r := rfl

/-- A new block. -/
theorem Step.alloc (h : Rel p e H w) (o : AObj) (r : Obj) (s : Nat) (hu : OUnd p H.D o) (ho : ORel p (e.more H.next w.heap.size s) H.next o r) (hs : H.next + 2 < 2 ^ 40) :
    Step p e H w (e.more H.next w.heap.size s) (H.new o) (w.alloc r) := by
  have hg : ∀ b o', (H.new o).get b = some o' → (b = H.next ∧ o' = o) ∨ (b ≠ H.next ∧ H.get b = some o') := by
    intro b o' hb
    rw [Heap.get_new _ _ _ (by omega)] at hb
    split at hb
    · rename_i hbn; exact .inl ⟨hbn, (Option.some.inj hb).symm⟩
    · rename_i hbn; exact .inr ⟨hbn, hb⟩
  have hold : ∀ b o', H.get b = some o' → e.ρ b < w.heap.size := fun b o' hb => by
    obtain ⟨r', hr', _⟩ := h.obj b o' hb
    exact (Array.getElem?_eq_some_iff.1 hr').1
  have hag := e.more_agree H w.heap.size s
  have hmono : ∀ b, H.D b → (H.new o).D b := Heap.D_mono (by simp) rfl
  refine ⟨hag, by simp, rfl, ⟨?_, ?_, ?_, ?_, ?_, ?_, ?_, ?_, h.gn, ?_, fun b hb => ⟨(h.gst b hb).1, Nat.lt_succ_of_lt (h.gst b hb).2⟩, fun b hb => by rw [← (hag b (h.lowD hb)).1]; exact h.fix b hb, fun b hb => ?_⟩, by simp, ?_, ?_, rfl, rfl, rfl⟩
  · intro b o' hb
    rcases hg b o' hb with ⟨rfl, rfl⟩ | ⟨hne, hb⟩
    · exact ⟨r, by rw [alloc_heap, Env.more_ρ]; simp, ho⟩
    · obtain ⟨r', hr', hor⟩ := h.obj b o' hb
      refine ⟨r', ?_, hor.agree (h.und b o' hb) (h.lt b o' hb) hag⟩
      rw [← (hag b (h.lt b o' hb)).1]
      rw [alloc_heap, Array.getElem?_push, if_neg (Nat.ne_of_lt (hold b o' hb)), hr']
  · intro b o' hb
    rcases hg b o' hb with ⟨rfl, rfl⟩ | ⟨_, hb⟩
    · exact hu.mono hmono
    · exact (h.und b o' hb).mono hmono
  · intro b o' hb
    rcases hg b o' hb with ⟨rfl, _⟩ | ⟨_, hb⟩
    · exact h.newD
    · exact hmono _ (h.lt b o' hb)
  · intro b b' o1 o2 hb hb' heq
    rcases hg b o1 hb with ⟨rfl, rfl⟩ | ⟨hne, hb1⟩ <;> rcases hg b' o2 hb' with ⟨rfl, rfl⟩ | ⟨hne', hb2⟩
    · rfl
    · rw [Env.more_ρ, ← (hag b' (h.lt b' o2 hb2)).1] at heq
      have := hold b' o2 hb2; omega
    · rw [Env.more_ρ, ← (hag b (h.lt b o1 hb1)).1] at heq
      have := hold b o1 hb1; omega
    · rw [← (hag b (h.lt b o1 hb1)).1, ← (hag b' (h.lt b' o2 hb2)).1] at heq
      exact h.inj b b' o1 o2 hb1 hb2 heq
  · intro g hg'
    rw [← (hag g (h.gloD hg')).1, ← (hag g (h.gloD hg')).2]; exact h.glo g hg'
  · intro b o' hb hn
    rcases hg b o' hb with ⟨rfl, _⟩ | ⟨_, hb⟩
    · simp; exact h.siz
    · rw [← (hag b (h.lt b o' hb)).1]; exact h.own b o' hb hn
  · have := h.siz; simp; omega
  · have := h.nxt; simp; omega
  · simp; omega
  · obtain ⟨h1, h2, h3⟩ := h.sft b hb
    have := h.nxt
    exact ⟨h1, h2, by rw [Heap.get_new _ _ _ (by omega), if_neg (by omega)]; exact h3⟩
  · intro r' hr' _
    rw [alloc_heap, Array.getElem?_push, if_neg (Nat.ne_of_lt hr')]
  · rintro r' ⟨b, o', hb, hn, rfl⟩
    rcases hg b o' hb with ⟨rfl, _⟩ | ⟨_, hb⟩
    · simp
    · rw [← (hag b (h.lt b o' hb)).1]; exact .inl ⟨b, o', hb, hn, rfl⟩

/-- A block is another one. -/
theorem Step.put (h : Rel p e H w) (b : Nat) (o o0 : AObj) (r : Obj) (hb : H.get b = some o0) (hn : p.N0 ≤ b) (hu : OUnd p H.D o) (ho : ORel p e b o r)
    (heap : w'.heap = w.heap.setIfInBounds (e.ρ b) r) (ht : w'.tape = w.tape) (hos : w'.os = w.os) (hout : w'.output = w.output) :
    Step p e H w e (H.set b (some o)) w' := by
  have hlt := (h.lt b o0 hb).1
  have hsm := h.sml
  obtain ⟨r0, hr0, _⟩ := h.obj b o0 hb
  have hin := (Array.getElem?_eq_some_iff.1 hr0).1
  have hg : ∀ b' o', (H.set b (some o)).get b' = some o' → (b' = b ∧ o' = o) ∨ (b' ≠ b ∧ H.get b' = some o') := by
    intro b' o' hb'
    rw [Heap.get_set _ _ _ _ (by omega)] at hb'
    split at hb'
    · rename_i hbn; exact .inl ⟨hbn, (Option.some.inj hb').symm⟩
    · rename_i hbn; exact .inr ⟨hbn, hb'⟩
  have hsome : ∀ b' o', (H.set b (some o)).get b' = some o' → ∃ o1, H.get b' = some o1 := fun b' o' hb' => by
    rcases hg b' o' hb' with ⟨rfl, _⟩ | ⟨_, h2⟩
    · exact ⟨o0, hb⟩
    · exact ⟨o', h2⟩
  refine ⟨.refl _ _, Nat.le_refl _, rfl, ⟨?_, ?_, ?_, ?_, h.glo, ?_, ?_, h.nxt, h.gn, h.sml, h.gst, h.fix, fun b' hb' => ?_⟩, by rw [heap]; simp, ?_, ?_, ht, hos, hout⟩
  · intro b' o' hb'
    rcases hg b' o' hb' with ⟨rfl, rfl⟩ | ⟨hne, hb2⟩
    · exact ⟨r, by rw [heap]; simp [hin], ho⟩
    · obtain ⟨r', hr', hor⟩ := h.obj b' o' hb2
      have : e.ρ b ≠ e.ρ b' := fun heq => hne (h.inj b' b o' o0 hb2 hb heq.symm)
      exact ⟨r', by rw [heap, Array.getElem?_setIfInBounds_ne this]; exact hr', hor⟩
  · intro b' o' hb'
    rcases hg b' o' hb' with ⟨rfl, rfl⟩ | ⟨_, hb2⟩
    · exact hu
    · exact h.und b' o' hb2
  · intro b' o' hb'
    obtain ⟨o1, h1⟩ := hsome b' o' hb'
    exact h.lt b' o1 h1
  · intro b1 b2 o1 o2 h1 h2 heq
    obtain ⟨_, h1'⟩ := hsome b1 o1 h1
    obtain ⟨_, h2'⟩ := hsome b2 o2 h2
    exact h.inj _ _ _ _ h1' h2' heq
  · intro b' o' hb' hn'
    obtain ⟨o1, h1⟩ := hsome b' o' hb'
    exact h.own b' o1 h1 hn'
  · rw [heap]; simpa using h.siz
  · obtain ⟨h1, h2, h3⟩ := h.sft b' hb'
    exact ⟨h1, h2, by rw [Heap.get_set _ _ _ _ (by omega), if_neg (by omega)]; exact h3⟩
  · intro r' _ hno
    have : e.ρ b ≠ r' := fun heq => hno ⟨b, o0, hb, hn, heq⟩
    rw [heap, Array.getElem?_setIfInBounds_ne this]
  · rintro r' ⟨b', o', hb', hn', rfl⟩
    obtain ⟨o1, h1⟩ := hsome b' o' hb'
    exact .inl ⟨b', o1, h1, hn', rfl⟩

/-- A block is forgotten. -/
theorem Rel.forget (h : Rel p e H w) (b : Nat) (hb : b + 1 < 2 ^ 40) : Rel p e (H.set b none) w := by
  have hg : ∀ b' o', (H.set b none).get b' = some o' → H.get b' = some o' := by
    intro b' o' hb'
    rw [Heap.get_set _ _ _ _ hb] at hb'
    split at hb'
    · cases hb'
    · exact hb'
  exact ⟨fun b' o' hb' => h.obj b' o' (hg _ _ hb'), fun b' o' hb' => h.und b' o' (hg _ _ hb'), fun b' o' hb' => h.lt b' o' (hg _ _ hb'),
    fun b1 b2 o1 o2 h1 h2 heq => h.inj b1 b2 o1 o2 (hg _ _ h1) (hg _ _ h2) heq, h.glo, fun b' o' hb' => h.own b' o' (hg _ _ hb'), h.siz, h.nxt, h.gn, h.sml, h.gst, h.fix, fun b' hb' => ⟨(h.sft b' hb').1, (h.sft b' hb').2.1, by
      rw [Heap.get_set _ _ _ _ hb]; split <;> first | rfl | exact (h.sft b' hb').2.2⟩⟩
theorem Step.forget (h : Rel p e H w) (b : Nat) (hb : b + 1 < 2 ^ 40) : Step p e H w e (H.set b none) w := by
  refine ⟨.refl _ _, Nat.le_refl _, rfl, h.forget b hb, Nat.le_refl _, fun _ _ _ => rfl, ?_, rfl, rfl, rfl⟩
  rintro r ⟨b', o', hb', hn, hr⟩
  rw [Heap.get_set _ _ _ _ hb] at hb'
  split at hb'
  · cases hb'
  · exact .inl ⟨b', o', hb', hn, hr⟩

/-- A block is there under another number, and another one in its place: a row that has grown where it lies. -/
theorem Step.growIn (h : Rel p e H w) (b : Nat) (o o0 : AObj) (r : Obj) (s : Nat) (hb : H.get b = some o0) (hn : p.N0 ≤ b) (hu : OUnd p H.D o)
    (ho : ORel p (e.more H.next (e.ρ b) s) H.next o r) (hs : H.next + 2 < 2 ^ 40)
    (heap : w'.heap = w.heap.setIfInBounds (e.ρ b) r) (ht : w'.tape = w.tape) (hos : w'.os = w.os) (hout : w'.output = w.output) :
    Step p e H w (e.more H.next (e.ρ b) s) ((H.set b none).new o) w' := by
  have hlt := (h.lt b o0 hb).1
  obtain ⟨r0, hr0, _⟩ := h.obj b o0 hb
  have hin := (Array.getElem?_eq_some_iff.1 hr0).1
  have hmono : ∀ b', H.D b' → ((H.set b none).new o).D b' := Heap.D_mono (by simp) rfl
  have hg : ∀ b' o', ((H.set b none).new o).get b' = some o' → (b' = H.next ∧ o' = o) ∨ (b' ≠ H.next ∧ b' ≠ b ∧ H.get b' = some o') := by
    intro b' o' hb'
    rw [Heap.get_new _ _ _ (by simp; omega)] at hb'
    by_cases hbn : b' = (H.set b none).next
    · rw [if_pos hbn] at hb'; exact .inl ⟨hbn, (Option.some.inj hb').symm⟩
    · rw [if_neg hbn, Heap.get_set _ _ _ _ (by omega)] at hb'
      by_cases hbb : b' = b
      · rw [if_pos hbb] at hb'; cases hb'
      · rw [if_neg hbb] at hb'; exact .inr ⟨hbn, hbb, hb'⟩
  have hag := e.more_agree H (e.ρ b) s
  refine ⟨hag, by simp, rfl, ⟨?_, ?_, ?_, ?_, ?_, ?_, ?_, ?_, h.gn, ?_, fun b' hb' => ⟨(h.gst b' hb').1, Nat.lt_succ_of_lt (h.gst b' hb').2⟩, fun b' hb' => by rw [← (hag b' (h.lowD hb')).1]; exact h.fix b' hb', fun b' hb' => ?_⟩, by rw [heap]; simp, ?_, ?_, ht, hos, hout⟩
  · intro b' o' hb'
    rcases hg b' o' hb' with ⟨rfl, rfl⟩ | ⟨hne, hnb, hb2⟩
    · exact ⟨r, by rw [heap, Env.more_ρ]; simp [hin], ho⟩
    · obtain ⟨r', hr', hor⟩ := h.obj b' o' hb2
      have : e.ρ b ≠ e.ρ b' := fun heq => hnb (h.inj b' b o' o0 hb2 hb heq.symm)
      exact ⟨r', by rw [heap, ← (hag b' (h.lt b' o' hb2)).1, Array.getElem?_setIfInBounds_ne this]; exact hr', hor.agree (h.und b' o' hb2) (h.lt b' o' hb2) hag⟩
  · intro b' o' hb'
    rcases hg b' o' hb' with ⟨rfl, rfl⟩ | ⟨_, _, hb2⟩
    · exact hu.mono hmono
    · exact (h.und b' o' hb2).mono hmono
  · intro b' o' hb'
    rcases hg b' o' hb' with ⟨rfl, _⟩ | ⟨_, _, hb2⟩
    · exact h.newD
    · exact hmono _ (h.lt b' o' hb2)
  · intro b1 b2 o1 o2 h1 h2 heq
    rcases hg b1 o1 h1 with ⟨rfl, rfl⟩ | ⟨hne, hnb, hb1⟩ <;> rcases hg b2 o2 h2 with ⟨rfl, rfl⟩ | ⟨hne', hnb', hb2⟩
    · rfl
    · rw [Env.more_ρ, ← (hag b2 (h.lt b2 o2 hb2)).1] at heq
      exact absurd (h.inj b b2 o0 o2 hb hb2 heq).symm hnb'
    · rw [Env.more_ρ, ← (hag b1 (h.lt b1 o1 hb1)).1] at heq
      exact absurd (h.inj b1 b o1 o0 hb1 hb heq) hnb
    · rw [← (hag b1 (h.lt b1 o1 hb1)).1, ← (hag b2 (h.lt b2 o2 hb2)).1] at heq
      exact h.inj b1 b2 o1 o2 hb1 hb2 heq
  · intro g hg'
    rw [← (hag g (h.gloD hg')).1, ← (hag g (h.gloD hg')).2]; exact h.glo g hg'
  · intro b' o' hb' hn'
    rcases hg b' o' hb' with ⟨rfl, _⟩ | ⟨_, _, hb2⟩
    · simp; exact h.own b o0 hb hn
    · rw [← (hag b' (h.lt b' o' hb2)).1]; exact h.own b' o' hb2 hn'
  · rw [heap]; simpa using h.siz
  · have := h.nxt; simp; omega
  · simp; omega
  · obtain ⟨h1, h2, h3⟩ := h.sft b' hb'
    have := h.nxt
    refine ⟨h1, h2, ?_⟩
    rw [Heap.get_new _ _ _ (by simp; omega), if_neg (by simp; omega), Heap.get_set _ _ _ _ (by omega)]
    split <;> first | rfl | exact h3
  · intro r' _ hno
    have : e.ρ b ≠ r' := fun heq => hno ⟨b, o0, hb, hn, heq⟩
    rw [heap, Array.getElem?_setIfInBounds_ne this]
  · rintro r' ⟨b', o', hb', hn', rfl⟩
    rcases hg b' o' hb' with ⟨rfl, _⟩ | ⟨_, _, hb2⟩
    · simp; exact .inl ⟨b, o0, hb, hn, rfl⟩
    · rw [← (hag b' (h.lt b' o' hb2)).1]; exact .inl ⟨b', o', hb2, hn', rfl⟩
end Go.Eng

namespace Go.Eng
variable [Shift]
variable {p : Par} {e e' : Env} {H H' : Heap} {w w' : World} {Z : Tab}

/-- The evaluator's tables are the program's. -/
structure TOk (Z : Tab) (p : Par) : Prop where
  info : ∀ t i, Z.info t = some i → p.P.info? t = some i
  und : ∀ t d, Z.und t = some d → p.P.underlying t = some d
  fn : ∀ f fn, Z.fn f = some fn → p.P.funcs[f]? = some fn ∧ (∃ c, fn.body = some c ∧ cOk p.G fn.ntmps c = true ∧ fn.ntmps ≤ 2 ^ 30) ∧ (fn.name == "runtime.NumGoroutine") = false
  idx : ∀ f, Z.ext f = some .indexByte → ∀ (s : ByteArray) (c : Int) (w : World), (callFunc f #[.string s, .int .u8 c]).run p.P w =
    .ok (.value (match (List.range s.size).find? fun i => s[i]! == UInt8.ofNat c.toNat with | some i => goInt i | none => goInt (-1))) w
  cmp : ∀ f, Z.ext f = some .compare → ∀ (a b : ByteArray) (w : World), (callFunc f #[.string a, .string b]).run p.P w = .ok (.value (goInt (Extern.BytealgCompare.cmp a b))) w
  n0 : Z.N0 = p.N0
  mixed : p.P.follows .mixedOrders = true
  eqk : ∀ t, Z.eqOk t = true → p.P.stoodInHeld t = false ∧ p.P.eqGuardType p.P.depth t = false

section
variable {P : Program}
theorem r_info {t : TypeId} {i : TypeInfo} (h : P.info? t = some i) (w : World) : (typeInfo t).run P w = .ok i w := by simp [typeInfo, h]
theorem r_und {t : TypeId} {d : TypeDesc} (h : P.underlying t = some d) (w : World) : (underlying t).run P w = .ok d w := run_underlying h w
theorem r_size {t : TypeId} {i : TypeInfo} (h : P.info? t = some i) (w : World) : (sizeOf t).run P w = .ok i.size w := by simp [sizeOf, r_info h]
theorem r_zero {t : TypeId} {i : TypeInfo} {z : Value} (h : P.info? t = some i) (hz : i.zero = some z) (w : World) : (zeroValue t).run P w = .ok z w := by simp [zeroValue, r_info h, hz]
theorem r_isAgg {t : TypeId} {d : TypeDesc} (h : P.underlying t = some d) (w : World) : (isAgg t).run P w = .ok (isAggD d) w := by
  simp only [isAgg, Sem.run_bind, r_und h, Result.andThen_ok]
  cases d <;> rfl
theorem r_loadVar_agg {t : TypeId} {d : TypeDesc} {i : TypeInfo} {a : Addr} {cs : Array Value} (h : P.underlying t = some d) (hd : isAggD d = true) (hi : P.info? t = some i)
    (hl : (loadCells a i.size).run P w = .ok cs w) : (loadVar t a).run P w = .ok (.agg cs) w := by
  simp [loadVar, r_isAgg h, hd, r_size hi, hl]
theorem r_loadVar_one {t : TypeId} {d : TypeDesc} {a : Addr} {v : Value} (h : P.underlying t = some d) (hd : isAggD d = false) (hc : w.cell? a = some v) :
    (loadVar t a).run P w = .ok v w := by
  simp [loadVar, r_isAgg h, hd, hc]
end

theorem takeN_some {l r : List Value} {off n : Nat} (h : takeN l off n = some r) : r = (l.drop off).take n ∧ r.length = n := by
  simp only [takeN] at h
  split at h
  · rename_i hl; cases h; exact ⟨rfl, hl⟩
  · cases h
theorem takeN_get {l r : List Value} {off n : Nat} (h : takeN l off n = some r) (j : Nat) (v : Value) (hv : r[j]? = some v) : l[off + j]? = some v := by
  obtain ⟨rfl, hl⟩ := takeN_some h
  rw [List.getElem?_take] at hv
  split at hv
  · rwa [List.getElem?_drop] at hv
  · cases hv
theorem takeN_mem {l r : List Value} {off n : Nat} (h : takeN l off n = some r) : ∀ v ∈ r, v ∈ l := by
  obtain ⟨rfl, _⟩ := takeN_some h
  exact fun v hv => List.mem_of_mem_drop (List.mem_of_mem_take hv)
theorem takeN_le {l r : List Value} {off n : Nat} (h : takeN l off n = some r) (hn : 0 < n) : off + n ≤ l.length := by
  obtain ⟨rfl, hl⟩ := takeN_some h
  simp at hl; omega

theorem addr_add (e : Env) (a : Addr) (n : Nat) : (e.addr a).add n = e.addr (a.add n) := by
  simp only [Addr.add, Env.addr]; split
  · rfl
  · simp only [Addr.mk.injEq, true_and, and_true]; omega
theorem addr_add_block (a : Addr) (n : Nat) : (a.add n).block = a.block := by simp only [Addr.add]; split <;> rfl
theorem add_spot {a : Addr} (h : a.spot = none) (n : Nat) : (a.add n) = ⟨a.block, a.off + n, none⟩ := by
  obtain ⟨b, o, s⟩ := a; simp only at h; subst h; simp only [Addr.add]; split
  · rename_i hn; subst hn; rfl
  · rfl

theorem Rel.addrS (h : Rel p e H w) {a : Addr} {o : AObj} (hs : a.spot = none) (hb : H.get a.block = some o) : e.addr a = ⟨e.ρ a.block, a.off, none⟩ := by
  rw [h.addr hb]; obtain ⟨b, o, s⟩ := a; simp only at hs; subst hs; rfl

/-- A cell of a followed row is a real one. -/
theorem Rel.cell (h : Rel p e H w) {b : Nat} {c : List Value} {el : TypeId} {fz : Nat × Nat} {g : Bool} (hb : H.get b = some (.cells c el fz g)) {j : Nat} {v : Value} (hv : c[j]? = some v) :
    w.cell? ⟨e.ρ b, j, none⟩ = some (ren e v) := by
  obtain ⟨r, hr, tail, el', fz', rfl, _⟩ := h.obj b _ hb
  have hlt : j < c.length := (List.getElem?_eq_some_iff.1 hv).1
  simp only [World.cell?, hr]
  have hv' := (List.getElem?_eq_some_iff.1 hv).2
  simp [Array.getElem?_append, hlt, hv']
theorem Rel.loadCells (h : Rel p e H w) {a : Addr} {c r : List Value} {el : TypeId} {fz : Nat × Nat} {g : Bool} (hs : a.spot = none) (hb : H.get a.block = some (.cells c el fz g))
    {n : Nat} (hr : takeN c a.off n = some r) : (Go.loadCells (e.addr a) n).run p.P w = .ok (r.map (ren e)).toArray w := by
  have hl := (takeN_some hr).2
  have := run_loadCells_list (P := p.P) w (e.addr a) (r.map (ren e)) (fun j v hv => by
    rw [List.getElem?_map] at hv
    obtain ⟨u, hu, rfl⟩ := Option.map_eq_some_iff.1 hv
    rw [h.addrS hs hb, add_spot rfl]
    exact h.cell hb (takeN_get hr j u hu))
  rwa [List.length_map, hl] at this

theorem loadV_sound (hZ : TOk Z p) (h : Rel p e H w) {t : TypeId} {a : Addr} {v : Value} (hv : loadV Z H t a = some v) :
    (loadVar t (e.addr a)).run p.P w = .ok (ren e v) w ∧ Und H.D v := by
  simp only [loadV] at hv
  split at hv
  · cases hv
  rename_i hs
  have hs' : a.spot = none := by simpa using hs
  simp only [Option.bind_eq_bind, Option.bind_eq_some_iff] at hv
  obtain ⟨o, ho, hv⟩ := hv
  cases o with
  | loop => simp at hv
  | deferred => simp at hv
  | map => simp at hv
  | cells c el fz g =>
    have hu : ∀ x ∈ c, Und H.D x := h.und _ _ ho
    simp only [Option.bind_eq_some_iff] at hv
    obtain ⟨d, hd, hv⟩ := hv
    split at hv
    · rename_i hagg
      simp only [Option.bind_eq_some_iff] at hv
      obtain ⟨i, hi, r, hr, hv⟩ := hv
      cases hv
      refine ⟨?_, und_agg fun x hx => hu x (takeN_mem hr x (by simpa using hx))⟩
      rw [r_loadVar_agg (hZ.und _ _ hd) hagg (hZ.info _ _ hi) (h.loadCells hs' ho hr)]
      simp
    · rename_i hagg
      refine ⟨?_, hu v (List.mem_of_getElem? hv)⟩
      refine r_loadVar_one (hZ.und _ _ hd) (by simpa using hagg) ?_
      have := h.cell ho hv
      have he : e.addr a = ⟨e.ρ a.block, a.off, none⟩ := h.addrS hs' ho
      rw [he]; exact this

/-! ### Stores -/
theorem putCells_length : ∀ (vs : List Value) (c : List Value) (i : Nat), (putCells c i vs).length = c.length
  | [], _, _ => rfl
  | v :: vs, c, i => by simp [putCells, putCells_length vs]
theorem putCells_map (f : Value → Value) : ∀ (vs : List Value) (c : List Value) (i : Nat), (putCells c i vs).map f = putCells (c.map f) i (vs.map f)
  | [], _, _ => rfl
  | v :: vs, c, i => by simp [putCells, putCells_map f vs, List.map_set]
theorem putCells_append : ∀ (vs : List Value) (c t : List Value) (i : Nat), i + vs.length ≤ c.length → putCells (c ++ t) i vs = putCells c i vs ++ t
  | [], _, _, _, _ => rfl
  | v :: vs, c, t, i, h => by
    simp only [List.length_cons] at h
    simp only [putCells]
    rw [List.set_append_left _ _ (by omega), putCells_append vs _ _ _ (by simp; omega)]
theorem putCells_mem : ∀ (vs : List Value) (c : List Value) (i : Nat) (x : Value), x ∈ putCells c i vs → x ∈ c ∨ x ∈ vs
  | [], _, _, _, h => .inl h
  | v :: vs, c, i, x, h => by
    rcases putCells_mem vs _ _ x h with h1 | h1
    · rcases List.mem_or_eq_of_mem_set h1 with h2 | h2
      · exact .inl h2
      · exact .inr (by simp [h2])
    · exact .inr (by simp [h1])

theorem isCell_ren (v : Value) : isCell (ren e v) = isCell v := by
  cases v with
  | pointer a => cases a <;> simp [isCell]
  | slice a l c => cases a <;> simp [isCell]
  | map r => cases r <;> simp [isCell]
  | chan r => cases r <;> simp [isCell]
  | _ => simp [isCell]
theorem isCell_one {v : Value} (h : isCell v = true) : v.oneCell' = true := by cases v <;> simp_all [isCell, Value.oneCell']
theorem cells_ren (v : Value) : (ren e v).cells = v.cells.map (ren e) := by
  cases v with
  | pointer a => cases a <;> simp [Value.cells]
  | slice a l c => cases a <;> simp [Value.cells]
  | map r => cases r <;> simp [Value.cells]
  | chan r => cases r <;> simp [Value.cells]
  | _ => simp [Value.cells]
theorem und_cells {n : Nat → Prop} {v : Value} (h : Und n v) : ∀ x ∈ v.cells.toList, Und n x := by
  cases v with
  | agg cs => exact fun x hx => und_agg_inv h x (by simpa [Value.cells] using hx)
  | _ => intro x hx; simp only [Value.cells, List.mem_singleton] at hx; rw [hx]; exact h

def World.setBlk (w : World) (r : Nat) (o : Obj) : World := { w with heap := w.heap.setIfInBounds r o }
theorem setCell_blk (w : World) (r j : Nat) (v : Value) {cur : Array Value} {el : TypeId} {fz : Nat × Nat} (h : w.heap[r]? = some (.cells cur el fz)) :
    w.setCell ⟨r, j, none⟩ v = World.setBlk w r (.cells (cur.setIfInBounds j v) el fz) := by
  simp only [World.setCell, World.setBlk]
  congr 1
  apply Array.ext_getElem?
  intro k
  rw [Array.getElem?_modify]
  by_cases hk : r = k
  · subst hk
    have hin := (Array.getElem?_eq_some_iff.1 h).1
    simp only [if_true, h]
    simp [hin]
  · rw [if_neg hk, Array.getElem?_setIfInBounds_ne hk]
theorem setBlk_setBlk (w : World) (r : Nat) (o o' : Obj) : World.setBlk (World.setBlk w r o) r o' = World.setBlk w r o' := by
  simp [World.setBlk]
theorem setBlk_self (w : World) (r : Nat) (o : Obj) (h : w.heap[r]? = some o) : World.setBlk w r o = w := by
  have hin := Array.getElem?_eq_some_iff.1 h
  simp only [World.setBlk]
  have : w.heap.setIfInBounds r o = w.heap := by
    apply Array.ext_getElem?
    intro k
    by_cases hk : r = k
    · subst hk; simp [hin.1, hin.2]
    · rw [Array.getElem?_setIfInBounds_ne hk]
  rw [this]
theorem setBlk_get (w : World) (r : Nat) (o o0 : Obj) (h : w.heap[r]? = some o0) : (World.setBlk w r o).heap[r]? = some o := by
  have hin := (Array.getElem?_eq_some_iff.1 h).1
  simp [World.setBlk, hin]

theorem run_storeCellsB (P : Program) (r o : Nat) (el : TypeId) (fz : Nat × Nat) : ∀ (vs : List Value) (i : Nat) (cur : List Value) (w : World), w.heap[r]? = some (.cells cur.toArray el fz) →
    o + i + vs.length ≤ cur.length → (∀ v ∈ vs, isCell v = true) → (∀ j, o + i ≤ j → j < o + i + vs.length → ¬ (fz.1 ≤ j ∧ j < fz.2)) →
    (storeCells ⟨r, o, none⟩ vs i).run P w = .ok () (World.setBlk w r (.cells (putCells cur (o + i) vs).toArray el fz))
  | [], i, cur, w, h, _, _, _ => by simp only [storeCells, putCells]; rw [setBlk_self w r _ h]; rfl
  | v :: vs, i, cur, w, h, hl, h1, hf => by
    simp only [List.length_cons] at hl hf
    have hadd : (⟨r, o, none⟩ : Addr).add i = ⟨r, o + i, none⟩ := add_spot rfl i
    have hc : ∃ u, w.cell? ⟨r, o + i, none⟩ = some u := by
      refine ⟨cur[o + i]'(by omega), ?_⟩
      simp only [World.cell?, h]
      simp
    obtain ⟨u, hc⟩ := hc
    have hfz : w.frozen? ⟨r, o + i, none⟩ = false := by
      have := hf (o + i) (Nat.le_refl _) (by omega)
      simp only [World.frozen?, h]
      simp; omega
    have hst : (store ⟨r, o + i, none⟩ v).run P w = .ok () (w.setCell ⟨r, o + i, none⟩ v) := by
      rw [run_store P w _ v _ (isCell_one (h1 v (by simp)))]; simp [hc, hfz]
    simp only [storeCells, hadd, Sem.run_bind, hst, Result.andThen_ok]
    rw [setCell_blk w r (o + i) v h]
    have hg := setBlk_get w r (.cells (cur.toArray.setIfInBounds (o + i) v) el fz) _ h
    have hset : cur.toArray.setIfInBounds (o + i) v = (cur.set (o + i) v).toArray := by simp
    rw [hset] at hg ⊢
    rw [run_storeCellsB P r o el fz vs (i + 1) (cur.set (o + i) v) _ hg (by simp; omega) (fun x hx => h1 x (by simp [hx])) (fun j hj1 hj2 => hf j (by omega) (by omega))]
    rw [setBlk_setBlk]
    simp only [putCells, Nat.add_assoc]

theorem storeCellsA_sound (hZ : TOk Z p) (h : Rel p e H w) {a : Addr} {vs : List Value} {d : Delta} (hd : storeCellsA Z H a vs = some d) (hu : ∀ v ∈ vs, Und H.D v) :
    ∃ w', (storeCells (e.addr a) (vs.map (ren e))).run p.P w = .ok () w' ∧ Step p e H w e (H.app d) w' ∧ ∃ b o, d = .set b o := by
  simp only [storeCellsA] at hd
  split at hd
  · cases hd
  rename_i hs
  have hs' : a.spot = none := by simpa using hs
  split at hd
  · cases hd
  rename_i hn
  rw [hZ.n0] at hn
  simp only [Option.bind_eq_bind, Option.bind_eq_some_iff] at hd
  obtain ⟨o, ho, hd⟩ := hd
  cases o with
  | loop => simp at hd
  | deferred => simp at hd
  | map => simp at hd
  | cells c el fz g =>
    simp only at hd
    split at hd
    · rename_i hcond
      cases hd
      simp only [Bool.and_eq_true, decide_eq_true_eq, List.all_eq_true, Bool.or_eq_true] at hcond
      obtain ⟨⟨hlen, hcell⟩, hfz⟩ := hcond
      obtain ⟨r, hr, tail, el', fz', rfl, hg1, hg2, hg3⟩ := h.obj _ _ ho
      obtain ⟨rfl, hfz'⟩ := hg2 (by omega)
      have he : e.addr a = ⟨e.ρ a.block, a.off, none⟩ := h.addrS hs' ho
      have hr' : w.heap[e.ρ a.block]? = some (.cells (c.map (ren e) ++ tail.toList).toArray el' fz') := by rw [hr]; simp
      have hrun := run_storeCellsB p.P (e.ρ a.block) a.off el' fz' (vs.map (ren e)) 0 _ w hr' (by simp; omega)
        (fun v hv => by obtain ⟨u, hu', rfl⟩ := List.mem_map.1 hv; rw [isCell_ren]; exact hcell u hu')
        (fun j hj1 hj2 => by
          simp only [Nat.add_zero, List.length_map] at hj1 hj2
          rcases hfz' with rfl | ⟨_, hb1, hb2⟩ <;> omega)
      refine ⟨_, by rw [he]; exact hrun, ?_, _, _, rfl⟩
      refine Step.put h a.block _ _ _ ho (by omega) ?_ ?_ rfl rfl rfl rfl
      · intro x hx
        rcases putCells_mem _ _ _ x hx with hx | hx
        · exact h.und _ _ ho x hx
        · exact hu x hx
      · refine ⟨tail, el', fz', ?_, hg1, fun _ => ⟨rfl, ?_⟩, hg3⟩
        · congr 1
          rw [Nat.add_zero, putCells_append _ _ _ _ (by simp; omega), putCells_map]
          apply Array.ext'
          simp
        · rw [putCells_length]; exact hfz'
    · cases hd

theorem storeV_sound (hZ : TOk Z p) (h : Rel p e H w) {t : TypeId} {a : Addr} {v : Value} {d : Delta} (hd : storeV Z H t a v = some d) (hu : Und H.D v) :
    ∃ w', (storeVar t (e.addr a) (ren e v)).run p.P w = .ok () w' ∧ Step p e H w e (H.app d) w' := by
  simp only [storeV, Option.bind_eq_bind, Option.bind_eq_some_iff] at hd
  obtain ⟨i, hi, hd⟩ := hd
  split at hd
  · rename_i hl
    obtain ⟨w', hrun, hstep, _⟩ := storeCellsA_sound hZ h hd (und_cells hu)
    refine ⟨w', ?_, hstep⟩
    have hsz : ¬ (ren e v).cells.size ≠ i.size := by rw [cells_ren]; simpa using hl
    simp only [storeVar, Sem.run_bind, r_size (hZ.info _ _ hi), Result.andThen_ok, if_neg hsz]
    rw [cells_ren, Array.toList_map]
    simpa using hrun
  · cases hd
end Go.Eng

namespace Go.Eng
variable [Shift]
variable {p : Par} {e e' : Env} {H H' : Heap} {w w' : World} {Z : Tab}

theorem pureOf_run {P : Program} {s : Sem Value} {v : Value} (h : pureOf s = some v) (w : World) : s.run P w = .ok v w ∧ scalar v = true := by
  cases s <;> simp only [pureOf] at h <;> try (cases h; done)
  rename_i a
  cases hs : scalar a with
  | false => rw [hs] at h; cases h
  | true => rw [hs] at h; cases h; exact ⟨rfl, hs⟩
theorem ren_scalar {v : Value} (h : scalar v = true) : ren e v = v := by cases v <;> simp_all [scalar]
theorem und_scalar {n : Nat → Prop} {v : Value} (h : scalar v = true) : Und n v := fun e e' _ => by rw [ren_scalar h, ren_scalar h]
theorem eqGuard_scalar {op : BinOp} {t : TypeId} {x y : Operand} {a b : Value} (h : scalar a = true) : eqGuard op t x y a b = pure () := by
  cases a <;> simp [scalar] at h
  · exact eqGuard_at_bool _ _ _ _ _ _
  · exact eqGuard_at_int _ _ _ _ _ _ _
  · exact eqGuard_at_string _ _ _ _ _ _


section
variable {P : Program} {t : TypeId} (d : Nat)
theorem eq_bool (h : P.underlying t = some .bool) (a b : Bool) : (Op.equalIn (d + 1) t (.bool a) (.bool b)).run P w = .ok (a == b) w := by
  simp [Op.equalIn, r_und h]
theorem eq_nils {ms : Array (String × TypeId)} (h : P.underlying t = some (.interface ms)) : (Op.equalIn (d + 1) t .nilIface .nilIface).run P w = .ok true w := by
  simp [Op.equalIn, r_und h]
theorem eq_nilL {ms : Array (String × TypeId)} (h : P.underlying t = some (.interface ms)) (tx : TypeId) (v : Value) : (Op.equalIn (d + 1) t .nilIface (.iface tx v)).run P w = .ok false w := by
  simp [Op.equalIn, r_und h]
theorem eq_nilR {ms : Array (String × TypeId)} (h : P.underlying t = some (.interface ms)) (tx : TypeId) (v : Value) : (Op.equalIn (d + 1) t (.iface tx v) .nilIface).run P w = .ok false w := by
  simp [Op.equalIn, r_und h]
theorem eq_other {ms : Array (String × TypeId)} (h : P.underlying t = some (.interface ms)) {tx ty : TypeId} (hne : tx ≠ ty) (v u : Value) :
    (Op.equalIn (d + 1) t (.iface tx v) (.iface ty u)).run P w = .ok false w := by
  simp [Op.equalIn, r_und h, hne]
theorem eq_ints {ms : Array (String × TypeId)} (h : P.underlying t = some (.interface ms)) {tx : TypeId} {i : TypeInfo} (hi : P.info? tx = some i) (hc : i.comparable = true) {k1 : IntKind}
    (hu : P.underlying tx = some (.int k1)) (k : IntKind) (a b : Int) : (Op.equalIn (d + 1 + 1) t (.iface tx (.int k a)) (.iface tx (.int k b))).run P w = .ok (a == b) w := by
  have h1 : (Op.equalIn (d + 1) tx (.int k a) (.int k b)).run P w = .ok (a == b) w := by simp [Op.equalIn, r_und hu]
  rw [Op.equalIn]
  simp [r_und h, r_info hi, hc, h1]
end
theorem equal_eq (t : TypeId) (x y : Value) : Op.equal t x y = Op.equalIn (9998 + 1 + 1) t x y := rfl


theorem partA_run (hZ : TOk Z p) {t : TypeId} {cs : Array Value} {off : Nat} {v : Value} (h : partA Z t cs off = some v) (w : World) : (part t (cs.map (ren e)) off).run p.P w = .ok (ren e v) w := by
  simp only [partA, Option.bind_eq_bind, Option.bind_eq_some_iff] at h
  obtain ⟨d, hd, h⟩ := h
  split at h
  · rename_i ha
    simp only [Option.bind_eq_some_iff] at h
    obtain ⟨i, hi, h⟩ := h
    cases h
    simp [part, r_isAgg (hZ.und _ _ hd), ha, r_size (hZ.info _ _ hi)]
  · rename_i ha
    simp [part, r_isAgg (hZ.und _ _ hd), ha, h]

theorem eqFields_run (hZ : TOk Z p) {f : TypeId → Value → Value → Option Bool} {g : TypeId → Value → Value → Sem Bool} (hfg : ∀ t a b r, f t a b = some r → ∀ w, (g t (ren e a) (ren e b)).run p.P w = .ok r w)
    {xs ys : Array Value} (w : World) : ∀ (fs : List Field) (r : Bool), eqFieldsA Z f xs ys fs = some r →
    (forIn fs (none, ()) (fun (fl : Field) (__s : Option Bool × Unit) =>
            if fl.name ≠ "_" then do
              let __do_lift ← part fl.type (xs.map (ren e)) fl.offset
              let __do_lift_1 ← part fl.type (ys.map (ren e)) fl.offset
              let __do_lift ← g fl.type __do_lift __do_lift_1
              if (!__do_lift) = true then pure (ForInStep.done (some false, ())) else pure (ForInStep.yield (none, ()))
            else pure (ForInStep.yield (none, ())) : Field → Option Bool × Unit → Sem (ForInStep (Option Bool × Unit)))).run p.P w = .ok (if r = true then none else some false, ()) w
  | [], r, h => by simp only [eqFieldsA, Option.some.injEq] at h; subst h; simp
  | fl :: fs, r, h => by
    simp only [eqFieldsA] at h
    rw [List.forIn_cons]
    split at h
    · rename_i hn
      rw [if_neg (by simp [hn])]
      simp only [Sem.run_bind, Sem.run_pure, Result.andThen_ok]
      exact eqFields_run hZ hfg w fs r h
    · rename_i hn
      rw [if_pos hn]
      split at h <;> try (cases h; done)
      rename_i a b ha hb
      simp only [Sem.run_bind, partA_run hZ ha, partA_run hZ hb, Result.andThen_ok]
      split at h <;> try (cases h; done)
      · rename_i hf
        rw [hfg _ _ _ _ hf]
        simp only [Result.andThen_ok, Bool.not_true, Bool.false_eq_true, if_false, Sem.run_pure]
        exact eqFields_run hZ hfg w fs r h
      · rename_i hf
        cases h
        rw [hfg _ _ _ _ hf]
        simp

theorem eqElems_run (hZ : TOk Z p) {f : Value → Value → Option Bool} {g : Value → Value → Sem Bool} (hfg : ∀ a b r, f a b = some r → ∀ w, (g (ren e a) (ren e b)).run p.P w = .ok r w)
    {el : TypeId} {size : Nat} {xs ys : Array Value} (w : World) : ∀ (n i : Nat) (r : Bool), eqElemsA Z f el size xs ys i n = some r →
    (forIn (List.range' i n) (none, ()) (fun (i_1 : Nat) (__s : Option Bool × Unit) => do
            let __do_lift ← part el (xs.map (ren e)) (i_1 * size)
            let __do_lift_1 ← part el (ys.map (ren e)) (i_1 * size)
            let __do_lift ← g __do_lift __do_lift_1
            if (!__do_lift) = true then pure (ForInStep.done (some false, ())) else pure (ForInStep.yield (none, ())) : Nat → Option Bool × Unit → Sem (ForInStep (Option Bool × Unit)))).run p.P w = .ok (if r = true then none else some false, ()) w
  | 0, i, r, h => by simp only [eqElemsA, Option.some.injEq] at h; subst h; simp
  | n + 1, i, r, h => by
    simp only [eqElemsA] at h
    rw [List.range'_succ, List.forIn_cons]
    split at h <;> try (cases h; done)
    rename_i a b ha hb
    simp only [Sem.run_bind, partA_run hZ ha, partA_run hZ hb, Result.andThen_ok]
    split at h <;> try (cases h; done)
    · rename_i hf
      rw [hfg _ _ _ hf]
      simp only [Result.andThen_ok, Bool.not_true, Bool.false_eq_true, if_false, Sem.run_pure]
      exact eqElems_run hZ hfg w n (i + 1) r h
    · rename_i hf
      cases h
      rw [hfg _ _ _ hf]
      simp

theorem eq_struct {P : Program} {d : Nat} {t : TypeId} {fs : Array Field} {xs ys : Array Value} {b : Bool} (hu : P.underlying t = some (.struct fs)) (hs : P.stoodInHeld t = false)
    (hloop : (forIn fs.toList (none, ()) (fun (fl : Field) (__s : Option Bool × Unit) =>
            if fl.name ≠ "_" then do
              let __do_lift ← part fl.type (xs.map (ren e)) fl.offset
              let __do_lift_1 ← part fl.type (ys.map (ren e)) fl.offset
              let __do_lift ← Op.equalIn d fl.type __do_lift __do_lift_1
              if (!__do_lift) = true then pure (ForInStep.done (some false, ())) else pure (ForInStep.yield (none, ()))
            else pure (ForInStep.yield (none, ())) : Field → Option Bool × Unit → Sem (ForInStep (Option Bool × Unit)))).run P w = .ok (if b = true then none else some false, ()) w) :
    (Op.equalIn (d + 1) t (ren e (.agg xs)) (ren e (.agg ys))).run P w = .ok b w := by
  unfold Op.equalIn
  simp only [ren_agg, Sem.run_bind, r_und hu, Result.andThen_ok, run_program, hs, Bool.false_eq_true, if_false]
  rw [← Array.forIn_toList]
  refine Eq.trans (congrArg (fun r => Result.andThen r _) hloop) ?_
  cases b <;> rfl
theorem eq_array {P : Program} {d : Nat} {t el : TypeId} {i : TypeInfo} {len : Nat} {xs ys : Array Value} {b : Bool} (hu : P.underlying t = some (.array len el)) (hi : P.info? el = some i)
    (hloop : (forIn (List.range' 0 len) (none, ()) (fun (i_1 : Nat) (__s : Option Bool × Unit) => do
            let __do_lift ← part el (xs.map (ren e)) (i_1 * i.size)
            let __do_lift_1 ← part el (ys.map (ren e)) (i_1 * i.size)
            let __do_lift ← Op.equalIn d el __do_lift __do_lift_1
            if (!__do_lift) = true then pure (ForInStep.done (some false, ())) else pure (ForInStep.yield (none, ())) : Nat → Option Bool × Unit → Sem (ForInStep (Option Bool × Unit)))).run P w = .ok (if b = true then none else some false, ()) w) :
    (Op.equalIn (d + 1) t (ren e (.agg xs)) (ren e (.agg ys))).run P w = .ok b w := by
  unfold Op.equalIn
  simp only [ren_agg, Sem.run_bind, r_und hu, Result.andThen_ok, r_size hi]
  rw [Std.Legacy.Range.forIn_eq_forIn_range']
  simp only [Std.Legacy.Range.size, Nat.sub_zero, Nat.add_sub_cancel, Nat.div_one]
  refine Eq.trans (congrArg (fun r => Result.andThen r _) hloop) ?_
  cases b <;> rfl

set_option maxHeartbeats 2000000 in
theorem eqV_sound (hZ : TOk Z p) : ∀ (n : Nat) (t : TypeId) (x y : Value) (b : Bool), eqV Z n t x y = some b → ∀ d, n ≤ d → ∀ w, (Op.equalIn d t (ren e x) (ren e y)).run p.P w = .ok b w
  | 0, t, x, y, b, h, d, hd, w => by simp [eqV] at h
  | n + 1, t, x, y, b, h, d, hd, w => by
    obtain ⟨d, rfl⟩ : ∃ d', d = d' + 1 := ⟨d - 1, by omega⟩
    have hd' : n ≤ d := by omega
    simp only [eqV] at h
    split at h
    · rename_i hu; cases h; simp [Op.equalIn, r_und (hZ.und _ _ hu)]
    · rename_i hu
      split at h <;> try (cases h; done)
      rename_i hk; cases h; simp [Op.equalIn, r_und (hZ.und _ _ hu), hk]
    · rename_i hu; cases h; simp [Op.equalIn, r_und (hZ.und _ _ hu)]
    · rename_i c hu; cases h; cases c <;> simp [Op.equalIn, r_und (hZ.und _ _ hu)]
    · rename_i hu; cases h; simp [Op.equalIn, r_und (hZ.und _ _ hu)]
    · rename_i c _ _ hu; cases h; cases c <;> simp [Op.equalIn, r_und (hZ.und _ _ hu)]
    · rename_i hu; cases h; simp [Op.equalIn, r_und (hZ.und _ _ hu)]
    · rename_i c hu; cases h; cases c <;> simp [Op.equalIn, r_und (hZ.und _ _ hu)]
    · rename_i hu; cases h; simp [Op.equalIn, r_und (hZ.und _ _ hu)]
    · rename_i hu; cases h; simp [Op.equalIn, r_und (hZ.und _ _ hu)]
    · rename_i hu; cases h; simp [Op.equalIn, r_und (hZ.und _ _ hu)]
    · rename_i hu; cases h; simp [Op.equalIn, r_und (hZ.und _ _ hu)]
    · rename_i hu; cases h; simp [Op.equalIn, r_und (hZ.und _ _ hu)]
    · rename_i hu; cases h; simp [Op.equalIn, r_und (hZ.und _ _ hu)]
    · rename_i hu; cases h; simp [Op.equalIn, r_und (hZ.und _ _ hu)]
    · rename_i tx vx ty vy hu
      split at h
      · rename_i hne
        cases h
        simp [Op.equalIn, r_und (hZ.und _ _ hu), hne]
      · rename_i heq
        have heq' : tx = ty := Classical.not_not.1 heq
        subst heq'
        split at h <;> try (cases h; done)
        rename_i i hi
        split at h <;> try (cases h; done)
        rename_i hc
        have ih := eqV_sound hZ n tx vx vy b h d hd' w
        rw [Op.equalIn]
        simp [r_und (hZ.und _ _ hu), r_info (hZ.info _ _ hi), hc, ih]
    · rename_i hu
      split at h <;> try (cases h; done)
      rename_i hk
      exact eq_struct (hZ.und _ _ hu) (hZ.eqk _ hk).1 (eqFields_run (e := e) hZ (g := Op.equalIn d) (fun t a b r hr w => eqV_sound hZ n t a b r hr d hd' w) w _ b h)
    · rename_i hu
      split at h <;> try (cases h; done)
      rename_i i hi
      exact eq_array (hZ.und _ _ hu) (hZ.info _ _ hi) (eqElems_run (e := e) hZ (g := Op.equalIn d _) (fun a b r hr w => eqV_sound hZ n _ a b r hr d hd' w) w _ 0 b h)
    · cases h
theorem eqV_equal (hZ : TOk Z p) {t : TypeId} {x y : Value} {b : Bool} (h : eqV Z 6 t x y = some b) (w : World) : (Op.equal t (ren e x) (ren e y)).run p.P w = .ok b w :=
  eqV_sound hZ 6 t x y b h _ (by decide) w

/-- Values of which '==' is Op.equal's. -/
def eqCls : Value → Bool
  | .pointer _ | .slice _ _ _ | .map _ | .func _ _ _ | .nilFunc | .agg _ | .iface _ _ => true
  | _ => false
theorem eqCls_ren {v : Value} (h : eqCls v = true) : eqCls (ren e v) = true := by
  cases v with
  | pointer a => cases a <;> simp [eqCls]
  | slice a l c => cases a <;> simp [eqCls]
  | map r => cases r <;> simp [eqCls]
  | _ => first | (simp [eqCls] at h; done) | simp [eqCls]
theorem binOp_eqls {t : TypeId} {x y : Value} (h : eqCls x = true) : binOp .eql t x y = (do pure (.bool (← Op.equal t x y))) ∧ binOp .neq t x y = (do pure (.bool (!(← Op.equal t x y)))) := by
  cases x <;> simp only [eqCls] at h <;> first | (cases h; done) | (cases y <;> exact ⟨rfl, rfl⟩)

theorem eqlA_sound {P : Program} {op : BinOp} {t : TypeId} {x y v : Value} {b : Bool} (h : eqlA op b = some v) (hr : (Op.equal t x y).run P w = .ok b w)
    (h1 : binOp .eql t x y = (do pure (.bool (← Op.equal t x y)))) (h2 : binOp .neq t x y = (do pure (.bool (!(← Op.equal t x y))))) : (binOp op t x y).run P w = .ok v w ∧ scalar v = true := by
  cases op <;> simp only [eqlA] at h <;> first | (cases h; done) | skip
  · cases h; rw [h1]; exact ⟨by simp [hr], rfl⟩
  · cases h; rw [h2]; exact ⟨by simp [hr], rfl⟩
theorem isIfaceD_some {o : Option TypeDesc} (h : isIfaceD o = true) : ∃ ms, o = some (.interface ms) := by
  unfold isIfaceD at h; split at h
  · exact ⟨_, rfl⟩
  · cases h
theorem isBoolD_some {o : Option TypeDesc} (h : isBoolD o = true) : o = some .bool := by
  unfold isBoolD at h; split at h
  · rfl
  · cases h

theorem divA_sound {P : Program} {op : BinOp} {t : TypeId} {k k' : IntKind} {a b : Int} {v : Value} (h : divA op k a k' b = some v) :
    (binOp op t (.int k a) (.int k' b)).run P w = .ok v w ∧ scalar v = true := by
  cases op <;> simp only [divA] at h <;> first | (cases h; done) | skip
  · split at h <;> try (cases h; done)
    rename_i hk; obtain ⟨rfl, hb⟩ := hk
    rw [binOp_quo]; exact pureOf_run h w
  · split at h <;> try (cases h; done)
    rename_i hk; obtain ⟨rfl, hb⟩ := hk
    rw [binOp_rem]; exact pureOf_run h w
  · split at h <;> try (cases h; done)
    rw [binOp_shl]; exact pureOf_run h w
  · split at h <;> try (cases h; done)
    rw [binOp_shr]; exact pureOf_run h w

theorem binOpA_sound (hZ : TOk Z p) {op : BinOp} {t : TypeId} {lit : Bool} {ox oy : Operand} {x y v : Value} (h : binOpA Z op t lit x y = some v) (hlit : lit = (isConst ox || isConst oy)) :
    ((do eqGuard op t ox oy (ren e x) (ren e y); binOp op t (ren e x) (ren e y)) : Sem Value).run p.P w = .ok v w ∧ scalar v = true := by
  simp only [binOpA] at h
  split at h
  · rename_i hc
    simp only [Bool.and_eq_true] at hc
    obtain ⟨⟨⟨hx, hy⟩, _⟩, _⟩ := hc
    obtain ⟨hr, hs⟩ := pureOf_run (P := p.P) h w
    rw [ren_scalar hx, ren_scalar hy, eqGuard_scalar hx]
    exact ⟨by simpa using hr, hs⟩
  · split at h
    · obtain ⟨hr, hs⟩ := divA_sound (P := p.P) (w := w) (t := t) h
      simp only [ren_int, eqGuard_at_int]
      exact ⟨by simpa using hr, hs⟩
    · split at h <;> try (cases h; done)
      rename_i hd
      have hu := hZ.und _ _ (isBoolD_some hd)
      obtain ⟨hr, hs⟩ := eqlA_sound (P := p.P) (w := w) (t := t) h (by rw [equal_eq]; exact eq_bool _ hu _ _) rfl rfl
      simp only [ren_bool, eqGuard_at_bool]
      exact ⟨by simpa using hr, hs⟩
    · split at h <;> try (cases h; done)
      rename_i hd
      simp only [Bool.and_eq_true] at hd
      obtain ⟨hl, hd⟩ := hd
      obtain ⟨ms, hm⟩ := isIfaceD_some hd
      obtain ⟨hr, hs⟩ := eqlA_sound (P := p.P) (w := w) (t := t) h (by rw [equal_eq]; exact eq_nils _ (hZ.und _ _ hm)) rfl rfl
      have hg : eqGuard op t ox oy .nilIface .nilIface = pure () := by
        rw [hlit] at hl
        cases ox <;> cases oy <;> simp [isConst] at hl <;> cases op <;> rfl
      simp only [ren_nilIface, hg]
      exact ⟨by simpa using hr, hs⟩
    · simp only [Option.bind_eq_some_iff] at h
      obtain ⟨b, hb, h⟩ := h
      obtain ⟨hr, hs⟩ := eqlA_sound (P := p.P) (w := w) h (eqV_equal (e := e) hZ hb w) (binOp_eqls (eqCls_ren rfl)).1 (binOp_eqls (eqCls_ren rfl)).2
      simp only [ren_iface, eqGuard_at_iface] at hr ⊢
      exact ⟨by simpa using hr, hs⟩
    · split at h <;> try (cases h; done)
      rename_i tx vx _ hd
      obtain ⟨ms, hm⟩ := isIfaceD_some hd
      obtain ⟨hr, hs⟩ := eqlA_sound (P := p.P) (w := w) (t := t) (x := .iface tx (ren e vx)) h (by rw [equal_eq]; exact eq_nilR _ (hZ.und _ _ hm) _ _) rfl rfl
      simp only [ren_iface, ren_nilIface, eqGuard_at_iface]
      exact ⟨by simpa using hr, hs⟩
    · split at h <;> try (cases h; done)
      rename_i tx vx _ hd
      obtain ⟨ms, hm⟩ := isIfaceD_some hd
      obtain ⟨hr, hs⟩ := eqlA_sound (P := p.P) (w := w) (t := t) (y := .iface tx (ren e vx)) h (by rw [equal_eq]; exact eq_nilL _ (hZ.und _ _ hm) _ _) rfl rfl
      simp only [ren_iface, ren_nilIface, eqGuard_nil_iface]
      exact ⟨by simpa using hr, hs⟩
    · simp only [Option.bind_eq_some_iff] at h
      obtain ⟨c, hb, h⟩ := h
      obtain ⟨hr, hs⟩ := eqlA_sound (P := p.P) (w := w) h (eqV_equal (e := e) hZ hb w) (binOp_eqls (eqCls_ren rfl)).1 (binOp_eqls (eqCls_ren rfl)).2
      have hg : ∀ (a : Option Addr) z, eqGuard op t ox oy (ren e (.pointer a)) z = pure () := fun a z => by cases a <;> simp [eqGuard_at_pointer]
      rw [hg]
      exact ⟨by simpa using hr, hs⟩
    · simp only [Option.bind_eq_some_iff] at h
      obtain ⟨c, hb, h⟩ := h
      obtain ⟨hr, hs⟩ := eqlA_sound (P := p.P) (w := w) h (eqV_equal (e := e) hZ hb w) (binOp_eqls (eqCls_ren rfl)).1 (binOp_eqls (eqCls_ren rfl)).2
      have hg : ∀ (a : Option Addr) (l c : Nat) z, eqGuard op t ox oy (ren e (.slice a l c)) z = pure () := fun a l c z => by cases a <;> simp [eqGuard_at_slice]
      rw [hg]
      exact ⟨by simpa using hr, hs⟩
    · simp only [Option.bind_eq_some_iff] at h
      obtain ⟨c, hb, h⟩ := h
      obtain ⟨hr, hs⟩ := eqlA_sound (P := p.P) (w := w) h (eqV_equal (e := e) hZ hb w) (binOp_eqls (eqCls_ren rfl)).1 (binOp_eqls (eqCls_ren rfl)).2
      have hg : ∀ (a : Option Nat) z, eqGuard op t ox oy (ren e (.map a)) z = pure () := fun a z => by cases a <;> simp [eqGuard_at_map]
      rw [hg]
      exact ⟨by simpa using hr, hs⟩
    · split at h <;> try (cases h; done)
      simp only [Option.bind_eq_some_iff] at h
      obtain ⟨c, hb, h⟩ := h
      obtain ⟨hr, hs⟩ := eqlA_sound (P := p.P) (w := w) h (eqV_equal (e := e) hZ hb w) (binOp_eqls (eqCls_ren rfl)).1 (binOp_eqls (eqCls_ren rfl)).2
      simp only [ren_nilFunc, eqGuard_at_nilFunc] at hr ⊢
      exact ⟨by simpa using hr, hs⟩
    · split at h <;> try (cases h; done)
      simp only [Option.bind_eq_some_iff] at h
      obtain ⟨c, hb, h⟩ := h
      obtain ⟨hr, hs⟩ := eqlA_sound (P := p.P) (w := w) h (eqV_equal (e := e) hZ hb w) (binOp_eqls (eqCls_ren rfl)).1 (binOp_eqls (eqCls_ren rfl)).2
      simp only [ren_func, eqGuard_at_func] at hr ⊢
      exact ⟨by simpa using hr, hs⟩
    · split at h <;> try (cases h; done)
      rename_i hk
      simp only [Option.bind_eq_some_iff] at h
      obtain ⟨c, hb, h⟩ := h
      obtain ⟨hr, hs⟩ := eqlA_sound (P := p.P) (w := w) h (eqV_equal (e := e) hZ hb w) (binOp_eqls (eqCls_ren rfl)).1 (binOp_eqls (eqCls_ren rfl)).2
      refine ⟨?_, hs⟩
      have hg : ∀ xs ys : Array Value, (eqGuard op t ox oy (.agg (xs.map (ren e))) (.agg (ys.map (ren e)))).run p.P w = .ok () w := by
        intro xs ys
        cases op <;> first | rfl | skip
        all_goals simp [eqGuard, (hZ.eqk _ hk).2]
      simp only [ren_agg, Sem.run_bind] at hr ⊢
      rw [hg]
      simpa using hr
    · cases h

/-! ### Values out of values -/
theorem partA_sound (hZ : TOk Z p) {t : TypeId} {cs : Array Value} {off : Nat} {n : Nat → Prop} {v : Value} (h : partA Z t cs off = some v) (hu : ∀ x ∈ cs, Und n x) :
    (part t (cs.map (ren e)) off).run p.P w = .ok (ren e v) w ∧ Und n v := by
  simp only [partA, Option.bind_eq_bind, Option.bind_eq_some_iff] at h
  obtain ⟨d, hd, h⟩ := h
  split at h
  · rename_i ha
    simp only [Option.bind_eq_some_iff] at h
    obtain ⟨i, hi, h⟩ := h
    cases h
    refine ⟨?_, und_agg fun x hx => hu x ?_⟩
    · simp [part, r_isAgg (hZ.und _ _ hd), ha, r_size (hZ.info _ _ hi)]
    · have h1 : x ∈ (cs.extract off (off + i.size)).toList := Array.mem_toList_iff.2 hx
      rw [Array.toList_extract, List.extract_eq_take_drop] at h1
      simpa using List.mem_of_mem_drop (List.mem_of_mem_take h1)
  · rename_i ha
    refine ⟨?_, hu v (Array.mem_of_getElem? h)⟩
    simp [part, r_isAgg (hZ.und _ _ hd), ha, h]

theorem fieldA_sound (hZ : TOk Z p) {t : TypeId} {x v : Value} {f : Nat} {n : Nat → Prop} (h : fieldA Z t x f = some v) (hu : Und n x) :
    (Instr.field t (ren e x) f).run p.P w = .ok (ren e v) w ∧ Und n v := by
  simp only [fieldA, Option.bind_eq_bind, Option.bind_eq_some_iff] at h
  obtain ⟨d, hd, h⟩ := h
  split at h <;> try (cases h; done)
  simp only [Option.bind_eq_some_iff] at h
  obtain ⟨fl, hfl, h⟩ := h
  split at h <;> try (cases h; done)
  rename_i cs
  obtain ⟨hr, hv⟩ := partA_sound (e := e) (w := w) hZ h (und_agg_inv hu)
  refine ⟨?_, hv⟩
  simp [Instr.field, r_und (hZ.und _ _ hd), hfl, asAgg, hr]

theorem fieldAddrA_sound (hZ : TOk Z p) {t : TypeId} {x v : Value} {f : Nat} {n : Nat → Prop} (h : fieldAddrA Z t x f = some v) (hu : Und n x) :
    (Instr.fieldAt t (ren e x) f).run p.P w = .ok (ren e v) w ∧ Und n v := by
  simp only [fieldAddrA, Option.bind_eq_bind, Option.bind_eq_some_iff] at h
  obtain ⟨d, hd, h⟩ := h
  split at h <;> try (cases h; done)
  simp only [Option.bind_eq_some_iff] at h
  obtain ⟨fl, hfl, i, hi, h⟩ := h
  split at h <;> try (cases h; done)
  rename_i a
  split at h <;> try (cases h; done)
  rename_i hsz
  cases h
  refine ⟨?_, ?_⟩
  · simp [Instr.fieldAt, r_und (hZ.und _ _ hd), hfl, Instr.sureAddr, fieldPlace, r_size (hZ.info _ _ hi), hsz, addr_add]
  · intro e1 e2 ha
    have := hu e1 e2 ha
    simp only [ren_ptr, Value.pointer.injEq, Option.some.injEq] at this ⊢
    rw [← addr_add, ← addr_add, this]

theorem und_ptr_add {n : Nat → Prop} {k : Nat} {a : Addr} (hu : Und n (.pointer (some a))) : Und n (.pointer (some (a.add k))) := fun e1 e2 ha => by
  have := hu e1 e2 ha
  simp only [ren_ptr, Value.pointer.injEq, Option.some.injEq] at this ⊢
  rw [← addr_add, ← addr_add, this]
theorem und_slice_ptr {n : Nat → Prop} {l c : Nat} {a : Addr} (hu : Und n (.slice (some a) l c)) : Und n (.pointer (some a)) := fun e1 e2 ha => by
  have := hu e1 e2 ha
  simp only [ren_slice, Value.slice.injEq, Option.some.injEq] at this
  simp only [ren_ptr, this.1]

theorem indexAddrA_sound (hZ : TOk Z p) {t : TypeId} {x ix v : Value} {n : Nat → Prop} (h : indexAddrA Z t x ix = some v) (hu : Und n x) :
    (Instr.indexAt t (ren e x) (ren e ix)).run p.P w = .ok (ren e v) w ∧ Und n v := by
  simp only [indexAddrA] at h
  split at h <;> try (cases h; done)
  rename_i k i
  simp only [Option.bind_eq_bind, Option.bind_eq_some_iff] at h
  obtain ⟨d, hd, h⟩ := h
  have hud := hZ.und _ _ hd
  split at h <;> try (cases h; done)
  · rename_i m el a
    simp only [Option.bind_eq_some_iff] at h
    obtain ⟨j, hj, h⟩ := h
    split at h <;> try (cases h; done)
    rename_i hin
    cases h
    refine ⟨?_, und_ptr_add hu⟩
    simp [Instr.indexAt, asIntOf, r_und hud, Instr.sureAddr, hin.1, hin.2, r_size (hZ.info _ _ hj), addr_add]
  · rename_i el a m c
    simp only [Option.bind_eq_some_iff] at h
    obtain ⟨j, hj, h⟩ := h
    split at h <;> try (cases h; done)
    rename_i hin
    cases h
    refine ⟨?_, und_ptr_add (und_slice_ptr hu)⟩
    simp [Instr.indexAt, asIntOf, r_und hud, hin.1, hin.2, r_size (hZ.info _ _ hj), addr_add]

theorem indexA_sound (hZ : TOk Z p) {t : TypeId} {x ix v : Value} {n : Nat → Prop} (h : indexA Z t x ix = some v) (hu : Und n x) :
    (Instr.index t (ren e x) (ren e ix)).run p.P w = .ok (ren e v) w ∧ Und n v := by
  simp only [indexA] at h
  split at h <;> try (cases h; done)
  rename_i k i
  simp only [Option.bind_eq_bind, Option.bind_eq_some_iff] at h
  obtain ⟨d, hd, h⟩ := h
  have hud := hZ.und _ _ hd
  split at h <;> try (cases h; done)
  · rename_i m el cs
    simp only [Option.bind_eq_some_iff] at h
    obtain ⟨j, hj, h⟩ := h
    split at h <;> try (cases h; done)
    rename_i hin
    obtain ⟨hr, hv⟩ := partA_sound (e := e) (w := w) hZ h (und_agg_inv hu)
    refine ⟨?_, hv⟩
    simp [Instr.index, asIntOf, r_und hud, hin.1, hin.2, r_size (hZ.info _ _ hj), hr]
  · rename_i s
    split at h <;> try (cases h; done)
    rename_i hin
    simp only [Option.map_eq_some_iff] at h
    obtain ⟨b, hb, rfl⟩ := h
    refine ⟨?_, und_int _ _⟩
    simp [Instr.index, asIntOf, r_und hud, hin, hb]

theorem bound_sound {P : Program} {x : Option Value} {d y r : Nat} {code : BoundsCode} (h : bound x d y = some r) :
    (match x.map (ren e) with | some v => Instr.sliceBound v y code | none => pure d : Sem Nat).run P w = .ok r w := by
  unfold bound at h
  split at h
  · cases h; rfl
  · rename_i k i
    split at h <;> try (cases h; done)
    rename_i hin
    cases h
    simp [Instr.sliceBound, asIntOf, hin.1, hin.2]
  · cases h
theorem slice_bounds {P : Program} {lo hi : Option Value} {isS : Bool} {len cap hh l : Nat} (h1 : bound hi len cap = some hh) (h2 : bound lo 0 hh = some l) :
    (Instr.sliceBounds isS len cap (lo.map (ren e)) (hi.map (ren e)) none).run P w = .ok (l, hh, cap) w := by
  have g1 := bound_sound (e := e) (P := P) (w := w) (code := if isS then .sliceAcap else .sliceAlen) h1
  have g2 := bound_sound (e := e) (P := P) (w := w) (code := .sliceB) h2
  cases hi with
  | none =>
    simp only [bound, Option.some.injEq] at h1
    subst h1
    cases lo with
    | none => simp only [bound, Option.some.injEq] at h2; subst h2; simp [Instr.sliceBounds]
    | some v => simp only [Option.map_some] at g2; simp [Instr.sliceBounds, g2]
  | some u =>
    simp only [Option.map_some] at g1
    cases lo with
    | none => simp only [bound, Option.some.injEq] at h2; subst h2; simp [Instr.sliceBounds, g1]
    | some v => simp only [Option.map_some] at g2; simp [Instr.sliceBounds, g1, g2]
theorem bound_le {x : Option Value} {d y r : Nat} (h : bound x d y = some r) (hd : d ≤ y) : r ≤ y := by
  unfold bound at h
  split at h
  · cases h; exact hd
  · split at h <;> try (cases h; done)
    rename_i hin; cases h; omega
  · cases h

theorem Rel.exact (h : Rel p e H w) {b : Nat} {c : List Value} {el : TypeId} {fz : Nat × Nat} (hb : H.get b = some (.cells c el fz false)) : e.σ b = 0 := by
  obtain ⟨r, hr, tail, el', fz', rfl, h1, _⟩ := h.obj _ _ hb
  exact (h1 rfl).2

theorem sliceA_sound (hZ : TOk Z p) (hR : Rel p e H w) {t : TypeId} {x v : Value} {lo hi mx : Option Value} (h : sliceA Z H t x lo hi mx = some v) (hu : Und H.D x) :
    (Instr.sliceAt t (ren e x) (lo.map (ren e)) (hi.map (ren e)) (mx.map (ren e))).run p.P w = .ok (ren e v) w ∧ Und H.D v := by
  simp only [sliceA] at h
  split at h
  · cases h
  rename_i hmx
  have hmx' : mx = none := by simpa using hmx
  subst hmx'
  simp only [Option.bind_eq_bind, Option.bind_eq_some_iff] at h
  obtain ⟨d, hd, h⟩ := h
  have hud := hZ.und _ _ hd
  split at h <;> try (cases h; done)
  · rename_i s
    simp only [Option.bind_eq_some_iff] at h
    obtain ⟨hh, h1, l, h2, h⟩ := h
    cases h
    refine ⟨?_, und_string _⟩
    have := slice_bounds (e := e) (P := p.P) (w := w) (isS := false) h1 h2
    simp [Instr.sliceAt, Instr.slice, r_und hud, this]
  · rename_i el a len cap
    simp only [Option.bind_eq_some_iff] at h
    obtain ⟨hh, h1, l, h2, i, hi', h⟩ := h
    have hsz := hZ.info _ _ hi'
    cases a with
    | none =>
      cases h
      refine ⟨?_, und_nilslice⟩
      have := slice_bounds (e := e) (P := p.P) (w := w) (isS := true) h1 h2
      simp [Instr.sliceAt, Instr.slice, r_und hud, this, r_size hsz]
    | some ad =>
      simp only [Option.bind_eq_some_iff] at h
      obtain ⟨o, ho, h⟩ := h
      cases o with
      | loop => simp at h
      | deferred => simp at h
      | map => simp at h
      | cells c el2 fz g =>
        simp only at h
        have hup := und_slice_ptr hu
        have hlt : H.D ad.block := hR.lt _ _ ho
        have h1' : bound hi len (cap + e.σ ad.block) = some hh := by
          unfold bound at h1 ⊢
          split at h1
          · exact h1
          · split at h1 <;> try (cases h1; done)
            rename_i hin; rw [if_pos ⟨hin.1, by omega⟩]; exact h1
          · cases h1
        have hle := bound_le h2 (Nat.zero_le _)
        have this := slice_bounds (e := e) (P := p.P) (w := w) (isS := true) h1' h2
        split at h
        · split at h
          · rename_i hl; subst hl
            cases h
            refine ⟨?_, ?_⟩
            · simp only [Instr.sliceAt, Instr.slice, ren_slice, Option.map_none, Sem.run_bind, r_und hud, this, Result.andThen_ok, r_size hsz, Nat.sub_zero, Nat.zero_mul]
              split <;> simp [Addr.add]
            · intro e1 e2 ha
              simp only [ren_slice, Env.addr, (ha _ hlt).1, (ha _ hlt).2, Nat.sub_zero]
          · rename_i hl0
            split at h <;> try (cases h; done)
            rename_i hl
            cases h
            refine ⟨?_, und_slice (by rw [addr_add_block]; exact hlt)⟩
            simp only [Instr.sliceAt, Instr.slice, ren_slice, Option.map_none, Sem.run_bind, r_und hud, this, Result.andThen_ok, r_size hsz]
            rw [if_neg (by omega)]
            simp only [Sem.run_pure, Option.map_some, addr_add, addr_add_block]
            rw [show cap + e.σ ad.block - l = cap - l + e.σ ad.block by omega]
        · rename_i hg
          have hg' : g = false := by simpa using hg
          subst hg'
          have hσ := hR.exact ho
          rw [hσ, Nat.add_zero] at this
          cases h
          refine ⟨?_, ?_⟩
          · simp only [Instr.sliceAt, Instr.slice, ren_slice, hσ, Option.map_none, Sem.run_bind, r_und hud, this, Result.andThen_ok, r_size hsz, Nat.add_zero]
            by_cases hcl : cap = l
            · subst hcl; simp [hσ]
            · simp [hcl, addr_add, addr_add_block, hσ]
          · by_cases hcl : cap = l
            · rw [if_pos hcl]; exact und_slice hlt
            · rw [if_neg hcl]; exact und_slice (by rw [addr_add_block]; exact hlt)
  · rename_i n el ad
    simp only [Option.bind_eq_some_iff] at h
    obtain ⟨hh, h1, l, h2, i, hi', o, ho, h⟩ := h
    have hsz := hZ.info _ _ hi'
    cases o with
    | loop => simp at h
    | deferred => simp at h
    | map => simp at h
    | cells c el2 fz g =>
      simp only at h
      split at h <;> try (cases h; done)
      rename_i hg
      have hg' : g = false := by simpa using hg
      subst hg'
      have hσ := hR.exact ho
      have hlt : H.D ad.block := hR.lt _ _ ho
      have this := slice_bounds (e := e) (P := p.P) (w := w) (isS := false) h1 h2
      cases h
      refine ⟨?_, ?_⟩
      · by_cases hcl : n = l
        · subst hcl; simp [Instr.sliceAt, r_und hud, Instr.sureAddr, this, r_size hsz, hσ]
        · simp [Instr.sliceAt, r_und hud, Instr.sureAddr, this, r_size hsz, hσ, hcl, addr_add, addr_add_block]
      · by_cases hcl : n = l
        · rw [if_pos hcl]; exact und_slice hlt
        · rw [if_neg hcl]; exact und_slice (by rw [addr_add_block]; exact hlt)
theorem slice3A_sound (hZ : TOk Z p) (hR : Rel p e H w) {t : TypeId} {x v : Value} {lo hi mx : Option Value} (h : slice3A Z H t x lo hi mx = some v) (hu : Und H.D x) :
    (Instr.sliceAt t (ren e x) (lo.map (ren e)) (hi.map (ren e)) (mx.map (ren e))).run p.P w = .ok (ren e v) w ∧ Und H.D v := by
  simp only [slice3A, Option.bind_eq_bind, Option.bind_eq_some_iff] at h
  obtain ⟨d, hd, h⟩ := h
  split at h <;> try (cases h; done)
  rename_i el
  split at h <;> try (cases h; done)
  rename_i ad len cap
  simp only [Option.bind_eq_some_iff] at h
  obtain ⟨o, ho, h⟩ := h
  split at h <;> try (cases h; done)
  rename_i c el2 fz g
  split at h <;> try (cases h; done)
  rename_i hg
  have hg' : g = false := by simpa using hg
  subst hg'
  have hσ := hR.exact ho
  have hlt : H.D ad.block := hR.lt _ _ ho
  simp only [Option.bind_eq_some_iff] at h
  obtain ⟨i, hi', h⟩ := h
  split at h <;> try (cases h; done)
  rename_i mv
  split at h <;> try (cases h; done)
  rename_i hv
  simp only [Option.bind_eq_some_iff] at h
  obtain ⟨m, h1, hh, h2, l, h3, h⟩ := h
  cases h
  have hud := hZ.und _ _ hd
  have hsz := hZ.info _ _ hi'
  have g1 := bound_sound (e := e) (P := p.P) (w := w) (code := .slice3Acap) h1
  have g2 := bound_sound (e := e) (P := p.P) (w := w) (code := .slice3B) h2
  have g3 := bound_sound (e := e) (P := p.P) (w := w) (code := .slice3C) h3
  simp only [Option.map_some] at g1 g2
  have gb : (Instr.sliceBounds true len cap (lo.map (ren e)) (some (ren e hv)) (some (ren e mv))).run p.P w = .ok (l, hh, m) w := by
    cases lo with
    | none =>
      simp only [bound, Option.some.injEq] at h3
      subst h3
      simp [Instr.sliceBounds, g1, g2]
    | some lv =>
      simp only [Option.map_some] at g3
      simp [Instr.sliceBounds, g1, g2, g3]
  refine ⟨?_, ?_⟩
  · simp only [Instr.sliceAt, Instr.slice, ren_slice, hσ, Option.map_some, Sem.run_bind, r_und hud, Result.andThen_ok, Nat.add_zero, gb, r_size hsz]
    by_cases hml : m = l
    · subst hml; simp [hσ]
    · simp [hml, addr_add, addr_add_block, hσ]
  · by_cases hml : m = l
    · rw [if_pos hml]; exact und_slice hlt
    · rw [if_neg hml]; exact und_slice (by rw [addr_add_block]; exact hlt)
end Go.Eng

namespace Go.Eng
variable [Shift]
variable {p : Par} {e e' : Env} {H H' : Heap} {w w' : World} {Z : Tab}

/-- A new row that is just what is followed of it. -/
theorem Step.row (h : Rel p e H w) {c : List Value} {el : TypeId} (hu : ∀ v ∈ c, Und H.D v) (hs : H.next + 2 < 2 ^ 40) :
    Step p e H w (e.more H.next w.heap.size 0) (H.new (.cells c el (0, 0) false)) (w.alloc (.cells (c.map (ren e)).toArray el)) := by
  refine Step.alloc h _ _ 0 hu ?_ hs
  refine ⟨#[], el, (0, 0), ?_, fun _ => ⟨rfl, by simp⟩, fun _ => ⟨rfl, .inl rfl⟩, (fun hg => by cases hg)⟩
  rw [map_ren_congr hu (e.more_agree H w.heap.size 0)]
  simp
theorem run_newRow {P : Program} (el : TypeId) (cs : Array Value) (w : World) : (newRow el cs).run P w = .ok ⟨w.heap.size, 0, none⟩ (w.alloc (.cells cs el)) := rfl

/-- What an operation must come to, to be followed by so much. -/
def OutRel (Z : Tab) (p : Par) (e : Env) (H : Heap) (w : World) (s : Sem Next) : Out → Prop
  | .val v d => ∃ e' w', (s.run p.P w = .ok (.value (ren e' v)) w' ∨ (s.run p.P w = .ok .skip w' ∧ v = undef)) ∧ Step p e H w e' (H.app d) w' ∧ Und (H.app d).D v
  | .enter f args => s.run p.P w = .ok (.enter f (args.map (ren e)).toArray) w ∧ (∀ a ∈ args, Und H.D a) ∧ (Z.fn f).isSome = true
  | .round l args => s.run p.P w = (Instr.yield (e.ρ l) (args.map (ren e)).toArray).run p.P w ∧ ∀ a ∈ args, Und H.D a
  | .defer d => s.run p.P w = .ok (.defer (renD e d)) w ∧ DUnd H.D d
  | .recover => s.run p.P w = .ok .recover w
  | .panic v => s.run p.P w = .halt (.panic (ren e v)) w ∧ Und H.D v

/-- A value, memory as it was. -/
theorem OutRel.same (h : Rel p e H w) {s : Sem Next} {v : Value} (hs : s.run p.P w = .ok (.value (ren e v)) w) (hu : Und H.D v) : OutRel Z p e H w s (.val v .same) :=
  ⟨e, w, .inl hs, .refl h, hu⟩
theorem OutRel.of_run {s s' : Sem Next} {o : Out} (h : OutRel Z p e H w s o) (hr : s'.run p.P w = s.run p.P w) : OutRel Z p e H w s' o := by
  cases o <;> simp only [OutRel] at h ⊢ <;> rw [hr] <;> exact h

theorem und_mem_map {n : Nat → Prop} {l : List Value} (h : ∀ v ∈ l, Und n v) {e e' : Env} (ha : Agree n e e') : l.map (ren e) = l.map (ren e') := map_ren_congr h ha

/-! ### Bytes -/
theorem convertA_sound (hZ : TOk Z p) (hR : Rel p e H w) {src dst : TypeId} {x v : Value} (h : convertA Z H src dst x = some v) (hu : Und H.D x) :
    (convert src dst (ren e x)).run p.P w = .ok (ren e v) w ∧ Und H.D v := by
  simp only [convertA, Option.bind_eq_bind, Option.bind_eq_some_iff] at h
  obtain ⟨d1, h1, d2, h2, h⟩ := h
  have u1 := hZ.und _ _ h1
  have u2 := hZ.und _ _ h2
  split at h <;> try (cases h; done)
  · rename_i k k' n
    obtain ⟨hr, hs⟩ := pureOf_run (P := p.P) h w
    refine ⟨?_, und_scalar hs⟩
    rw [ren_scalar hs, ren_int]
    have : (convert src dst (.int k' n)).run p.P w = (Conv.intToInt k n).run p.P w := by simp [convert, r_und u1, r_und u2]
    rw [this, hr]
  · rename_i k' n
    obtain ⟨hr, hs⟩ := pureOf_run (P := p.P) h w
    refine ⟨?_, und_scalar hs⟩
    rw [ren_scalar hs, ren_int]
    have : (convert src dst (.int k' n)).run p.P w = (Conv.intToString n).run p.P w := by simp [convert, r_und u1, r_und u2]
    rw [this, hr]
  · rename_i s
    cases h
    refine ⟨?_, und_string _⟩
    simp [convert, r_und u1, r_und u2]
  · rename_i el a len cap
    simp only [Option.bind_eq_some_iff] at h
    obtain ⟨d3, h3, h⟩ := h
    have u3 := hZ.und _ _ h3
    split at h <;> try (cases h; done)
    split at h
    · cases h
      refine ⟨?_, und_string _⟩
      simp [convert, r_und u1, r_und u2, r_und u3, Conv.bytesToString]
    · rename_i ad
      split at h <;> try (cases h; done)
      rename_i hs
      have hs' : ad.spot = none := by simpa using hs
      simp only [Option.bind_eq_some_iff] at h
      obtain ⟨o, ho, h⟩ := h
      cases o with
      | loop => simp at h
      | deferred => simp at h
      | map => simp at h
      | cells c el2 fz g =>
        simp only [Option.bind_eq_some_iff] at h
        obtain ⟨r, hr, bs, hbs, h⟩ := h
        cases h
        refine ⟨?_, und_string _⟩
        have hl := hR.loadCells hs' ho hr
        have key : ∀ (l : List Value) (bs : List UInt8) (acc : ByteArray), (l.mapM fun | .int .u8 n => some (UInt8.ofNat n.toNat) | _ => none) = some bs →
            (forIn (l.map (ren e)).toArray acc (fun (c : Value) (s : ByteArray) => (match c with
              | .int .u8 n => pure (ForInStep.yield (s.push (UInt8.ofNat n.toNat)))
              | _ => do
                stuck "bytesToString: byte expected"
                pure (ForInStep.yield s) : Sem (ForInStep ByteArray))) : Sem ByteArray).run p.P w = .ok ⟨acc.data ++ bs.toArray⟩ w := by
          intro l
          induction l with
          | nil => intro bs acc hb; simp at hb; subst hb; simp
          | cons x l ih =>
            intro bs acc hb
            simp only [List.mapM_cons, Option.bind_eq_bind, Option.bind_eq_some_iff] at hb
            obtain ⟨b, hb1, bs', hb2, hb3⟩ := hb
            cases hb3
            split at hb1 <;> try (cases hb1; done)
            rename_i n
            cases hb1
            have := ih bs' (acc.push (UInt8.ofNat n.toNat)) hb2
            simp only [List.map_cons, ren_int]
            rw [List.forIn_toArray] at this ⊢
            rw [List.forIn_cons]
            simp only [Sem.run_bind, Sem.run_pure, Result.andThen_ok]
            rw [this]
            congr 2
            apply Array.ext'
            simp [ByteArray.push]
        have := key r bs .empty hbs
        simp only [convert, ren_slice, Sem.run_bind, r_und u1, r_und u2, Result.andThen_ok, r_und u3, Conv.bytesToString]
        rw [hl]
        simp only [Result.andThen_ok]
        refine Eq.trans (congrArg (fun r => Result.andThen r (fun a w' => Sem.run p.P (pure (Value.string a)) w')) this) ?_
        simp

theorem toBytesA_sound (hZ : TOk Z p) (hR : Rel p e H w) (hs : H.next + 2 < 2 ^ 40) {src dst : TypeId} {x v : Value} {d : Delta} (h : toBytesA Z H src dst x = some (v, d)) :
    ∃ e' w', (convert src dst (ren e x)).run p.P w = .ok (ren e' v) w' ∧ Step p e H w e' (H.app d) w' ∧ Und (H.app d).D v := by
  simp only [toBytesA] at h
  split at h <;> try (cases h; done)
  rename_i s
  simp only [Option.bind_eq_bind, Option.bind_eq_some_iff] at h
  obtain ⟨d1, h1, h⟩ := h
  split at h <;> try (cases h; done)
  simp only [Option.bind_eq_some_iff] at h
  obtain ⟨d2, h2, h⟩ := h
  split at h <;> try (cases h; done)
  rename_i el
  simp only [Option.bind_eq_some_iff] at h
  obtain ⟨d3, h3, h⟩ := h
  split at h <;> try (cases h; done)
  simp only [Option.bind_eq_some_iff] at h
  obtain ⟨i, hi, h⟩ := h
  split at h <;> try (cases h; done)
  rename_i hsz
  have hsz' : i.size = 1 := Classical.not_not.1 hsz
  cases h
  -- how much there is, the tape says
  obtain ⟨cap, hcap, hq⟩ : ∃ cap, s.size ≤ cap ∧ (choose (.appendCap s.size 0 el)).run p.P w = .ok cap w.drew := by
    refine ⟨s.size + w.tape w.drawn (.appendCap s.size 0 el) % (2 ^ 63 - s.size), by omega, ?_⟩
    simp [Question.forced, Question.cut]
  have hst := Step.drew hR
  let cells : Array Value := s.data.map fun b => Value.int .u8 b.toNat
  let tail : Array Value := Array.replicate (cap - s.size) (.int .u8 0)
  have hrow : (cells ++ tail).size = cap := by simp [cells, tail]; have : s.data.size = s.size := rfl; omega
  refine ⟨e.more H.next w.drew.heap.size (cap - s.size), w.drew.alloc (.cells (cells ++ tail) el (cap, cap + 1)), ?_, ?_, (und_slice hR.newD)⟩
  · have hmark : ∀ W : World, W.heap.size = w.heap.size → (markStringish ⟨w.heap.size, 0, none⟩).run p.P (W.alloc (.cells (cells ++ tail) el)) = .ok () (W.alloc (.cells (cells ++ tail) el (cap, cap + 1))) := by
      intro W hW
      have hsh : (W.alloc (.cells (cells ++ tail) el)).shape? w.heap.size = some (el, cap) := by
        simp only [World.shape?, alloc_heap, ← hW]
        simp [hrow]
      simp only [markStringish, Sem.run_bind, run_shape, hsh, Result.andThen_ok, run_freeze, World.freeze]
      simp only [Nat.succ_ne_zero, if_false, alloc_heap]
      congr 1
      simp only [World.alloc]
      congr 1
      apply Array.ext_getElem?
      intro k
      rw [Array.getElem?_modify, Array.getElem?_push, Array.getElem?_push, ← hW]
      by_cases hk : W.heap.size = k
      · subst hk; simp
      · rw [if_neg hk]
        simp [Ne.symm hk]
    simp only [convert, ren_string, Sem.run_bind, r_und (hZ.und _ _ h1), r_und (hZ.und _ _ h2), Result.andThen_ok, r_und (hZ.und _ _ h3), Conv.stringToBytes, hq]
    rw [show newRow el ((s.data.map fun b => Value.int .u8 b.toNat) ++ Array.replicate (cap - s.size) (.int .u8 0)) = newRow el (cells ++ tail) from rfl]
    simp only [run_newRow, Result.andThen_ok, World.size_drew]
    rw [hmark w.drew rfl]
    simp only [Result.andThen_ok, Sem.run_pure, ren_slice, Env.addr, hR.shiftN hR.nxt, Nat.add_zero, Env.more_ρ, Env.more_σ, World.size_drew]
    congr 2
    omega
  · refine hst.trans (Step.alloc hR.drew _ _ _ ?_ ?_ hs)
    · intro u hu
      obtain ⟨b, _, rfl⟩ := List.mem_map.1 hu
      exact und_int _ _
    · refine ⟨tail, el, (cap, cap + 1), ?_, (fun hg => by cases hg), fun _ => ⟨rfl, .inr ⟨?_, ?_, ?_⟩⟩, fun _ => ⟨i, hZ.info _ _ hi, by simp [tail, hsz']⟩⟩
      · congr 1
        apply Array.ext'
        simp [cells]
      · simp
      · simp
      · simp; exact hcap
end Go.Eng

namespace Go.Eng
variable [Shift]
variable {p : Par} {e e' : Env} {H H' : Heap} {w w' : World} {Z : Tab}

theorem growBy_le (newLen : Nat) : ∀ (r c : Nat), Builtin.growBy newLen r c ≤ max c (newLen + (newLen + 768) / 4)
  | 0, c => by simp [Builtin.growBy]; omega
  | r + 1, c => by
    simp only [Builtin.growBy]
    split
    · omega
    · have := growBy_le newLen r (c + (c + 768) / 4)
      omega
theorem nextslicecap_le {need c : Nat} (h : c < need) : Builtin.nextslicecap need c ≤ 2 * need + 1024 := by
  simp only [Builtin.nextslicecap]
  split
  · omega
  · split
    · omega
    · have := growBy_le need 4 c
      omega

theorem putCells_eq : ∀ (vs L : List Value) (k : Nat), k + vs.length ≤ L.length → putCells L k vs = L.take k ++ vs ++ L.drop (k + vs.length)
  | [], L, k, _ => by simp [putCells]
  | v :: vs, L, k, h => by
    simp only [List.length_cons] at h
    simp only [putCells]
    rw [putCells_eq vs (L.set k v) (k + 1) (by simp; omega)]
    have h1 : (L.set k v).take (k + 1) = L.take k ++ [v] := by
      rw [List.take_succ_eq_append_getElem (by simp; omega), List.take_set_of_le (Nat.le_refl _)]
      simp
    rw [h1, List.drop_set_of_lt (by omega)]
    simp [Nat.add_assoc, Nat.add_comm 1]

theorem lenOfA_sound {P : Program} {x : Value} {n : Nat} (h : lenOfA x = some n) : (Builtin.lenOf (ren e x)).run P w = .ok n w := by
  cases x with
  | slice a l c => cases a <;> (simp only [lenOfA, Option.some.injEq] at h; subst h; simp [Builtin.lenOf])
  | string s => simp only [lenOfA, Option.some.injEq] at h; subst h; simp [Builtin.lenOf]
  | _ => simp [lenOfA] at h

theorem firstCellsA_sound (hR : Rel p e H w) {size n : Nat} {x : Value} {r : List Value} (h : firstCellsA H size n x = some r) (hu : Und H.D x) :
    (Builtin.firstCells size n (ren e x)).run p.P w = .ok (r.map (ren e)).toArray w ∧ (∀ v ∈ r, Und H.D v) := by
  unfold firstCellsA at h
  split at h
  · rename_i a l c
    split at h <;> try (cases h; done)
    rename_i hs
    split at h <;> try (cases h; done)
    rename_i cs el fz g ho
    refine ⟨?_, fun v hv => hR.und _ _ ho v (takeN_mem h v hv)⟩
    simp [Builtin.firstCells, hR.loadCells (by simpa using hs) ho h]
  · split at h <;> try (cases h; done)
    cases h
    exact ⟨by simp [Builtin.firstCells], fun v hv => by cases hv⟩
  · rename_i s
    cases h
    refine ⟨?_, fun v hv => by obtain ⟨b, _, rfl⟩ := List.mem_map.1 hv; exact und_int _ _⟩
    have hf : (ren e ∘ fun b : UInt8 => Value.int .u8 b.toNat) = fun b : UInt8 => Value.int .u8 b.toNat := by funext b; simp
    simp only [ren_string, Builtin.firstCells, Sem.run_pure, List.map_map, hf]
    congr 1
    apply Array.ext'
    simp
  · cases h

theorem appendCap_run {P : Program} (w : World) (need old : Nat) (el : TypeId) : ∃ cap, need ≤ cap ∧ (choose (.appendCap need old el)).run P w = .ok cap w.drew := by
  refine ⟨need + w.tape w.drawn (.appendCap need old el) % (2 ^ 63 - need), by omega, ?_⟩
  simp only [run_choose, Question.forced, Question.cut, Bool.false_eq_true, if_false]
  rfl

theorem zeroCells_size (zero : Array Value) (n : Nat) : (Builtin.zeroCells zero n).size = n * zero.size := by simp [Builtin.zeroCells]

section
variable {P : Program} {argTypes : Array TypeId} {ty st el : TypeId} {i : TypeInfo} {base : Option Addr} {sLen sCap n : Nat} {x : Value} {new : Array Value}
theorem notInt_cases {d : TypeDesc} (h : notInt (some d) = true) : (∃ e, d = .slice e) ∨ d = .string := by
  unfold notInt at h
  split at h
  · rename_i heq; cases heq; exact .inl ⟨_, rfl⟩
  · rename_i heq; cases heq; exact .inr rfl
  · cases h

/-- 'append' where there is room: the new cells are stored. -/
theorem append_fits {W W' : World} (h0 : argTypes[0]? = some st)
    (hst : P.underlying st = some (.slice el)) (hi : P.info? el = some i) (hx : ∀ xt, argTypes[1]? = some xt → ∃ d, P.underlying xt = some d ∧ notInt (some d) = true)
    (hn : ∀ W, (Builtin.lenOf x).run P W = .ok n W) (hle : sLen + n ≤ sCap) (hnew : (Builtin.firstCells i.size n x).run P W = .ok new W)
    (hstore : match base with | some a => (storeCells (a.add (sLen * i.size)) new.toList).run P W = .ok () W' | none => W' = W) :
    (Builtin.append_ argTypes ty #[.slice base sLen sCap, x]).run P W = .ok (.slice base (sLen + n) sCap) W' := by
  unfold Builtin.append_
  simp only [h0, Sem.run_bind, r_und hst, r_size hi, Result.andThen_ok, List.getElem?_toArray, List.getElem?_cons_zero, List.getElem?_cons_succ]
  cases h1 : argTypes[1]? with
  | none =>
    simp only [Sem.run_bind, Sem.run_pure, Result.andThen_ok, Bool.false_eq_true, if_false, hn, hle, if_true, Bool.not_false, hnew]
    cases base with
    | none => simp only at hstore; subst hstore; rfl
    | some a => simp only at hstore ⊢; simp only [Sem.run_bind, hstore, Result.andThen_ok, Sem.run_pure]
  | some xt =>
    obtain ⟨d, hd, hni⟩ := hx xt h1
    rcases notInt_cases hni with ⟨e, rfl⟩ | rfl
    all_goals
      simp only [Sem.run_bind, Sem.run_pure, r_und hd, Result.andThen_ok, Bool.false_eq_true, if_false, hn, hle, if_true, Bool.not_false, hnew]
      cases base with
      | none => simp only at hstore; subst hstore; rfl
      | some a => simp only at hstore ⊢; simp only [Sem.run_bind, hstore, Result.andThen_ok, Sem.run_pure]

/-- 'append' where there is no room: a new row, as long as the tape says. -/
theorem append_grows {W : World} {zero : Value} {old : Array Value} (h0 : argTypes[0]? = some st)
    (hst : P.underlying st = some (.slice el)) (hi : P.info? el = some i) (hz : i.zero = some zero) (hx : ∀ xt, argTypes[1]? = some xt → ∃ d, P.underlying xt = some d ∧ notInt (some d) = true)
    (hn : ∀ W, (Builtin.lenOf x).run P W = .ok n W) (hlt : sCap < sLen + n) (hbig : (2 * (sLen + n) + 1024) * i.bytes ≤ 2 ^ 47) (hneed : sLen + n ≤ 2 ^ 40)
    (hnew : (Builtin.firstCells i.size n x).run P W.drew = .ok new W.drew) (hold : (Builtin.firstCells i.size sLen (.slice base sLen sCap)).run P W.drew = .ok old W.drew) :
    ∃ cap, sLen + n ≤ cap ∧ (Builtin.append_ argTypes ty #[.slice base sLen sCap, x]).run P W = .ok (.slice (some ⟨W.heap.size, 0, none⟩) (sLen + n) cap)
      (W.drew.alloc (.cells (old ++ new ++ Builtin.zeroCells zero.cells (cap - (sLen + n))) el)) := by
  obtain ⟨cap, hcap, hq⟩ := appendCap_run (P := P) W (sLen + n) sCap el
  refine ⟨cap, hcap, ?_⟩
  have h1 : ¬ (((sLen + n : Nat) : Int) > IntKind.i64.max) := by rw [IntKind.max_i64]; omega
  have h2 : ¬ (Builtin.nextslicecap (sLen + n) sCap * i.bytes > 2 ^ 48) := by
    have := nextslicecap_le hlt
    have := Nat.mul_le_mul_right i.bytes this
    omega
  have h3 : ¬ (sLen + n ≤ sCap) := by omega
  unfold Builtin.append_
  simp only [h0, Sem.run_bind, r_und hst, r_size hi, Result.andThen_ok, List.getElem?_toArray, List.getElem?_cons_zero, List.getElem?_cons_succ]
  cases h1' : argTypes[1]? with
  | none =>
    simp only [Sem.run_bind, Sem.run_pure, Result.andThen_ok, Bool.false_eq_true, if_false, hn, h3, r_info hi, h1, false_and, h2, hq, run_askRoom, hold, Bool.not_false, if_true, hnew, r_zero hi hz, run_newRow, World.size_drew]
  | some xt =>
    obtain ⟨d, hd, hni⟩ := hx xt h1'
    rcases notInt_cases hni with ⟨e, rfl⟩ | rfl
    all_goals simp only [Sem.run_bind, Sem.run_pure, r_und hd, Result.andThen_ok, Bool.false_eq_true, if_false, hn, h3, r_info hi, h1, false_and, h2, hq, run_askRoom, hold, Bool.not_false, if_true, hnew, r_zero hi hz,
      run_newRow, World.size_drew]
end

end Go.Eng

namespace Go.Eng
variable [Shift]
variable {p : Par} {e e' : Env} {H H' : Heap} {w w' : World} {Z : Tab}
theorem putCells_nil (c : List Value) (i : Nat) : putCells c i [] = c := rfl

theorem appendA_sound (hZ : TOk Z p) (hR : Rel p e H w) (hs : H.next + 2 < 2 ^ 40) {argTypes : Array TypeId} {ty : TypeId} {s x v : Value} {d : Delta} (h : appendA Z H argTypes s x = some (v, d))
    (hus : Und H.D s) (hux : Und H.D x) :
    ∃ e' w', (Builtin.append_ argTypes ty #[ren e s, ren e x]).run p.P w = .ok (ren e' v) w' ∧ Step p e H w e' (H.app d) w' ∧ Und (H.app d).D v := by
  simp only [appendA, Option.bind_eq_bind, Option.bind_eq_some_iff] at h
  obtain ⟨st, h0, dst, hdst, h⟩ := h
  split at h <;> try (cases h; done)
  rename_i el
  have ust := hZ.und _ _ hdst
  split at h <;> try (cases h; done)
  rename_i base sLen sCap
  simp only [Option.bind_eq_some_iff] at h
  obtain ⟨i, hi, h⟩ := h
  have hinfo := hZ.info _ _ hi
  split at h
  · cases h
  rename_i hxt
  have hx : ∀ xt, argTypes[1]? = some xt → ∃ d, p.P.underlying xt = some d ∧ notInt (some d) = true := by
    intro xt h1
    simp only [secondOk, h1, Bool.not_eq_true', Bool.not_eq_false] at hxt
    cases hu : Z.und xt with
    | none => rw [hu] at hxt; simp [notInt] at hxt
    | some d => rw [hu] at hxt; exact ⟨d, hZ.und _ _ hu, by simpa using hxt⟩
  simp only [Option.bind_eq_some_iff] at h
  obtain ⟨n, hn, new, hnew, h⟩ := h
  have hlen : ∀ W, (Builtin.lenOf (ren e x)).run p.P W = .ok n W := fun W => lenOfA_sound hn
  obtain ⟨hnewR, hnewU⟩ := firstCellsA_sound hR hnew hux
  obtain ⟨hnewD, _⟩ := firstCellsA_sound hR.drew hnew hux
  split at h
  · cases h
  rename_i hnl
  simp only [Bool.or_eq_true, decide_eq_true_eq, not_or, Bool.not_eq_true', Bool.not_eq_false, ne_eq, Decidable.not_not, List.all_eq_true] at hnl
  obtain ⟨hnl', hnc⟩ := hnl
  split at h
  · -- there is room
    rename_i hle
    cases base with
    | none =>
      simp only at h
      split at h <;> try (cases h; done)
      rename_i hemp
      cases h
      refine ⟨e, w, ?_, Step.refl hR, und_nilslice⟩
      simp only [ren_nilslice]
      exact append_fits (P := p.P) (base := none) h0 ust hinfo hx hlen hle hnewR rfl
    | some a =>
      simp only at h
      split at h
      · rename_i hemp
        cases h
        have hnew0 : new = [] := by simpa using hemp
        subst hnew0
        have hp := und_slice_ptr hus
        refine ⟨e, w, ?_, Step.refl hR, fun e1 e2 ha => ?_⟩
        · simp only [ren_slice]
          exact append_fits (P := p.P) (base := some (e.addr a)) h0 ust hinfo hx hlen (by omega) hnewR (by simp [storeCells])
        · have := hus e1 e2 ha
          simp only [ren_slice, Value.slice.injEq] at this ⊢
          exact ⟨this.1, trivial, this.2.2⟩
      · simp only [Option.bind_eq_some_iff] at h
        obtain ⟨d', hd', h⟩ := h
        cases h
        obtain ⟨w', hrun, hstep, b, o, rfl⟩ := storeCellsA_sound hZ hR hd' hnewU
        refine ⟨e, w', ?_, hstep, fun e1 e2 ha => ?_⟩
        · simp only [ren_slice]
          exact append_fits (P := p.P) (base := some (e.addr a)) h0 ust hinfo hx hlen (by omega) hnewR (by simp only [addr_add]; simpa using hrun)
        · have := hus e1 e2 (ha.mono (Heap.D_mono hstep.le hstep.gho))
          simp only [ren_slice, Value.slice.injEq] at this ⊢
          exact ⟨this.1, trivial, this.2.2⟩
  · -- there is none
    rename_i hle
    have hlt : sCap < sLen + n := by omega
    split at h
    · cases h
    rename_i hbig
    simp only [Bool.or_eq_true, decide_eq_true_eq, not_or, Nat.not_lt] at hbig
    simp only [Option.bind_eq_some_iff] at h
    obtain ⟨zero, hz, h⟩ := h
    split at h
    · cases h
    rename_i hzs
    simp only [Bool.or_eq_true, decide_eq_true_eq, not_or, Bool.not_eq_true', Bool.not_eq_false, ne_eq, Decidable.not_not] at hzs
    -- a new row, of what was there and what comes
    have grow : ∀ (base' : Option Addr) (old : List Value) (sCap' : Nat), sCap' < sLen + n → (∀ v ∈ old, Und H.D v) → old.length = sLen * i.size →
        (Builtin.firstCells i.size sLen (.slice base' sLen sCap')).run p.P w.drew = .ok (old.map (ren e)).toArray w.drew →
        ∃ s', (Builtin.append_ argTypes ty #[.slice base' sLen sCap', ren e x]).run p.P w =
            .ok (ren (e.more H.next w.heap.size s') (.slice (some ⟨H.next, 0, none⟩) (sLen + n) (sLen + n))) (w.drew.alloc (.cells (((old ++ new).map (ren e)).toArray ++ Builtin.zeroCells zero.cells s') el)) ∧
          OUnd p H.D (.cells (old ++ new) el (0, 0) true) ∧
          ORel p (e.more H.next w.heap.size s') H.next (.cells (old ++ new) el (0, 0) true) (.cells (((old ++ new).map (ren e)).toArray ++ Builtin.zeroCells zero.cells s') el) := by
      intro base' old sCap' hlt' hou hol hold
      obtain ⟨cap, hcap, hrun⟩ := append_grows (P := p.P) (ty := ty) (base := base') h0 ust hinfo hz hx hlen hlt' hbig.1 hbig.2 hnewD hold
      refine ⟨cap - (sLen + n), ?_, ?_, ?_⟩
      · rw [hrun]
        simp only [ren_slice, Env.addr, hR.shiftN hR.nxt, Nat.add_zero, Env.more_ρ, Env.more_σ]
        rw [show sLen + n + (cap - (sLen + n)) = cap by omega]
        congr 3
        apply Array.ext'
        simp
      · intro u hu
        rcases List.mem_append.1 hu with hu | hu
        · exact hou u hu
        · exact hnewU u hu
      · refine ⟨Builtin.zeroCells zero.cells (cap - (sLen + n)), el, (0, 0), ?_, (fun hg => by cases hg), fun _ => ⟨rfl, .inl rfl⟩, fun _ => ⟨i, hinfo, ?_⟩⟩
        · rw [map_ren_congr (l := old ++ new) (fun u hu => by
            rcases List.mem_append.1 hu with hu | hu
            · exact hou u hu
            · exact hnewU u hu) (e.more_agree H w.heap.size (cap - (sLen + n)))]
        · rw [zeroCells_size, hzs.1]; simp
    cases base with
    | none =>
      simp only at h
      split at h <;> try (cases h; done)
      rename_i hl0
      cases h
      obtain ⟨s', hrun, hu, ho⟩ := grow none [] sCap hlt (fun v hv => by cases hv) (by simp [hl0]) (by simp [Builtin.firstCells])
      refine ⟨_, _, ?_, (Step.drew hR).trans (Step.alloc hR.drew _ _ s' (by simpa using hu) (by simpa using ho) hs), (und_slice hR.newD)⟩
      simpa using hrun
    | some a =>
      simp only at h
      split at h <;> try (cases h; done)
      rename_i hsp
      have hsp' : a.spot = none := by simpa using hsp
      simp only [Option.bind_eq_some_iff] at h
      obtain ⟨o, ho, h⟩ := h
      cases o with
      | loop => simp at h
      | deferred => simp at h
      | map => simp at h
      | cells c el' fz g =>
        simp only [Option.bind_eq_some_iff] at h
        obtain ⟨old, hold, h⟩ := h
        have hoU : ∀ v ∈ old, Und H.D v := fun v hv => hR.und _ _ ho v (takeN_mem hold v hv)
        have hoL := (takeN_some hold).2
        have hfc : ∀ c', (Builtin.firstCells i.size sLen (.slice (some (e.addr a)) sLen c')).run p.P w.drew = .ok (old.map (ren e)).toArray w.drew := by
          intro c'
          simp only [Builtin.firstCells]
          exact hR.drew.loadCells hsp' ho hold
        have hlta : H.D a.block := hR.lt _ _ ho
        split at h
        · rename_i hg
          subst hg
          split at h <;> try (cases h; done)
          rename_i hc
          obtain ⟨hoff, hN0, rfl, rfl, hcl, hsz⟩ := hc
          rw [hZ.n0] at hN0
          cases h
          by_cases hroom : sLen + n ≤ sCap + e.σ a.block
          · -- in place
            obtain ⟨r, hr, tail, el2, fz2, rfl, _, hg2, hg3⟩ := hR.obj _ _ ho
            obtain ⟨rfl, hfz⟩ := hg2 hN0
            have hfz' : fz2 = (0, 0) := by rcases hfz with h | h; exact h; exact absurd rfl h.1
            subst hfz'
            obtain ⟨j, hj, htail⟩ := hg3 rfl
            rw [hinfo] at hj; cases hj
            have he : e.addr a = ⟨e.ρ a.block, 0, none⟩ := by rw [hR.addrS hsp' ho, hoff]
            have hr' : w.heap[e.ρ a.block]? = some (.cells (c.map (ren e) ++ tail.toList).toArray el2 (0, 0)) := by rw [hr]; simp
            have hmul : (sLen + n) * i.size ≤ (sCap + e.σ a.block) * i.size := Nat.mul_le_mul_right _ hroom
            rw [Nat.add_mul, Nat.add_mul] at hmul
            have hrun := run_storeCellsB p.P (e.ρ a.block) (sLen * i.size) el2 (0, 0) (new.map (ren e)) 0 _ w hr' (by simp; omega)
              (fun v hv => by obtain ⟨u, hu', rfl⟩ := List.mem_map.1 hv; rw [isCell_ren]; exact hnc u hu')
              (fun j hj1 hj2 => by omega)
            have happ := append_fits (P := p.P) (ty := ty) (W := w) (base := some (e.addr a)) h0 ust hinfo hx hlen hroom hnewR
              (W' := World.setBlk w (e.ρ a.block) (.cells (putCells (c.map (ren e) ++ tail.toList) (sLen * i.size + 0) (new.map (ren e))).toArray el2 (0, 0)))
              (by
                show (storeCells ((e.addr a).add (sLen * i.size)) _).run p.P w = _
                rw [he, add_spot rfl, Nat.zero_add]; exact hrun)
            obtain ⟨hold1, _⟩ := takeN_some hold
            rw [hoff, List.drop_zero] at hold1
            have hle2 : sLen * i.size ≤ c.length := by
              have h7 := hoL
              rw [hold1, List.length_take] at h7; omega
            have hLk : (c.map (ren e) ++ tail.toList).take (sLen * i.size) = old.map (ren e) := by
              rw [List.take_append_of_le_length (by simp; omega), ← List.map_take, ← hold1]
            refine ⟨e.more H.next (e.ρ a.block) (sCap + e.σ a.block - (sLen + n)),
              World.setBlk w (e.ρ a.block) (.cells (putCells (c.map (ren e) ++ tail.toList) (sLen * i.size + 0) (new.map (ren e))).toArray el2 (0, 0)), ?_,
              Step.growIn hR a.block _ _ (.cells (putCells (c.map (ren e) ++ tail.toList) (sLen * i.size + 0) (new.map (ren e))).toArray el2 (0, 0)) (sCap + e.σ a.block - (sLen + n)) ho hN0 ?_ ?_ hs rfl rfl rfl rfl, (und_slice hR.newD)⟩
            · simp only [ren_slice]
              rw [happ]
              simp only [Env.addr, hR.shiftN hR.nxt, Nat.add_zero, hR.shift ho, Env.more_ρ, Env.more_σ]
              rw [show sLen + n + (sCap + e.σ a.block - (sLen + n)) = sCap + e.σ a.block by omega]
              obtain ⟨b, o, s⟩ := a
              simp only at hoff hsp'
              subst hoff hsp'
              rfl
            · intro u hu
              rcases List.mem_append.1 hu with hu | hu
              · exact hoU u hu
              · exact hnewU u hu
            · refine ⟨((c.map (ren e) ++ tail.toList).drop (sLen * i.size + new.length)).toArray, el2, (0, 0), ?_, (fun hg => by cases hg), fun _ => ⟨rfl, .inl rfl⟩, fun _ => ⟨i, hinfo, ?_⟩⟩
              · rw [← map_ren_congr (l := old ++ new) (fun u hu => by
                  rcases List.mem_append.1 hu with hu | hu
                  · exact hoU u hu
                  · exact hnewU u hu) (e.more_agree H (e.ρ a.block) (sCap + e.σ a.block - (sLen + n)))]
                congr 1
                rw [Nat.add_zero, putCells_eq _ _ _ (by simp; omega), hLk]
                apply Array.ext'
                simp
              · rw [Env.more_σ, Nat.sub_mul, Nat.add_mul, Nat.add_mul]
                simp only [List.size_toArray, List.length_drop, List.length_append, List.length_map, Array.length_toList]
                omega
          · obtain ⟨s', hrun, hu, ho'⟩ := grow (some (e.addr a)) old (sCap + e.σ a.block) (by omega) hoU hoL (hfc _)
            refine ⟨_, _, ?_, ((Step.drew hR).trans (Step.forget hR.drew a.block (by have := hR.sml; have := hlta.1; omega))).trans
              (Step.alloc (hR.drew.forget a.block (by have := hR.sml; have := hlta.1; omega)) _ _ s' hu ho' hs), (und_slice hR.newD)⟩
            simpa using hrun
        · rename_i hg
          have hg' : g = false := by simpa using hg
          subst hg'
          have hσ := hR.exact ho
          cases h
          obtain ⟨s', hrun, hu, ho'⟩ := grow (some (e.addr a)) old sCap hlt hoU hoL (hfc _)
          refine ⟨_, _, ?_, (Step.drew hR).trans (Step.alloc hR.drew _ _ s' hu ho' hs), (und_slice hR.newD)⟩
          simpa [hσ] using hrun
end Go.Eng

namespace Go.Eng
variable [Shift]
variable {p : Par} {e e' : Env} {H H' : Heap} {w w' : World} {Z : Tab}

theorem fold_set (off : Nat) : ∀ (vs : List Value) (k : Nat) (cs : Array Value), (vs.zipIdx k).foldl (fun (cs : Array Value) (x : Value × Nat) => cs.setIfInBounds (off + x.2) x.1) cs = (putCells cs.toList (off + k) vs).toArray
  | [], k, cs => by simp [putCells]
  | v :: vs, k, cs => by
    simp only [List.zipIdx_cons, List.foldl_cons, putCells]
    rw [fold_set off vs (k + 1) _]
    congr 1
    simp [Nat.add_assoc]

theorem fill_sound (place : Nat → Option (Nat × Nat)) : ∀ (parts : List (Nat × Value)) (cells r : List Value), fillA place cells parts = some r →
    Instr.fill place (cells.map (ren e)).toArray (parts.map fun x => (x.1, ren e x.2)) = some (r.map (ren e)).toArray
  | [], cells, r, h => by simp only [fillA, Option.some.injEq] at h; subst h; simp [Instr.fill]
  | (i, v) :: rest, cells, r, h => by
    simp only [fillA] at h
    split at h
    · cases h
    · rename_i off size hp
      split at h
      · cases h
      · rename_i hc
        simp only [Bool.or_eq_true, decide_eq_true_eq, not_or, ne_eq, Decidable.not_not, Nat.not_lt] at hc
        have ih := fill_sound place rest _ r h
        simp only [List.map_cons, Instr.fill, hp]
        have hcs : (ren e v).cells.size = size := by rw [cells_ren]; simpa using hc.1
        rw [if_neg (by rw [hcs]; simp; have := hc.2; rw [hc.1] at this; omega)]
        have hz : ((ren e v).cells.zipIdx.foldl (fun (cs : Array Value) (x : Value × Nat) => match x with | (c, j) => cs.setIfInBounds (off + j) c) (cells.map (ren e)).toArray) = ((putCells cells off v.cells.toList).map (ren e)).toArray := by
          rw [← Array.foldl_toList, Array.toList_zipIdx]
          have := fold_set off (ren e v).cells.toList 0 (cells.map (ren e)).toArray
          rw [Nat.add_zero] at this
          rw [putCells_map]
          rw [cells_ren, Array.toList_map] at this ⊢
          exact this
        rw [hz]
        exact ih
theorem fill_mem (place : Nat → Option (Nat × Nat)) {n : Nat → Prop} : ∀ (parts : List (Nat × Value)) (cells r : List Value), fillA place cells parts = some r → (∀ v ∈ cells, Und n v) → (∀ x ∈ parts, Und n x.2) → ∀ v ∈ r, Und n v
  | [], cells, r, h, hc, _ => by simp only [fillA, Option.some.injEq] at h; subst h; exact hc
  | (i, v) :: rest, cells, r, h, hc, hp => by
    simp only [fillA] at h
    split at h
    · cases h
    · split at h
      · cases h
      · refine fill_mem place rest _ r h (fun x hx => ?_) (fun x hx => hp x (by simp [hx]))
        rcases putCells_mem _ _ _ x hx with hx | hx
        · exact hc x hx
        · exact und_cells (hp (i, v) (by simp)) x hx
theorem plain_cells {n : Nat} {z : Value} (h : plain n z = true) : z.cells.toList.map (ren e) = z.cells.toList := by
  have := congrArg Value.cells (ren_plain (e := e) n z h)
  rw [cells_ren] at this
  have := congrArg Array.toList this
  simpa using this
theorem und_plain_cells {n : Nat} {m : Nat → Prop} {z : Value} (h : plain n z = true) : ∀ v ∈ z.cells.toList, Und m v := und_cells (und_plain h)

theorem fill_congr {f g : Nat → Option (Nat × Nat)} (h : ∀ i, f i = g i) (cells : Array Value) (parts : List (Nat × Value)) : Instr.fill f cells parts = Instr.fill g cells parts := by
  rw [show f = g from funext h]

theorem run_mapM_list {α β : Type} {P : Program} (f : α → Sem β) (g : α → β) : ∀ (l : List α), (∀ x ∈ l, ∀ w, (f x).run P w = .ok (g x) w) → ∀ w, (l.mapM f).run P w = .ok (l.map g) w
  | [], _, w => by simp
  | x :: l, h, w => by
    simp only [List.mapM_cons, Sem.run_bind, h x (by simp), Result.andThen_ok, run_mapM_list f g l (fun y hy => h y (by simp [hy])), Sem.run_pure, List.map_cons]
theorem run_mapM_arr {α β : Type} {P : Program} (f : α → Sem β) (g : α → β) (a : Array α) (h : ∀ x ∈ a, ∀ w, (f x).run P w = .ok (g x) w) (w : World) : (a.mapM f).run P w = .ok (a.map g) w := by
  have h1 := run_mapM_list (P := P) f g a.toList (fun x hx => h x (by simpa using hx)) w
  have h2 : a.mapM f = List.toArray <$> a.toList.mapM f := Array.mapM_eq_mapM_toList
  rw [h2, Sem.run_map, h1, Result.andThen_ok]
  congr 1
  apply Array.ext'
  simp

theorem buildA_sound (hZ : TOk Z p) {t : TypeId} {parts : Array (Nat × Value)} {v : Value} {n : Nat → Prop} (h : buildA Z t parts.toList = some v) (hu : ∀ x ∈ parts.toList, Und n x.2) :
    (Instr.build t (parts.map fun x => (x.1, ren e x.2))).run p.P w = .ok (ren e v) w ∧ Und n v := by
  simp only [buildA, Option.bind_eq_bind, Option.bind_eq_some_iff] at h
  obtain ⟨i, hi, z, hz, h⟩ := h
  split at h
  · cases h
  rename_i hp
  have hp' : plain 3 z = true := by simpa using hp
  simp only [Option.bind_eq_some_iff] at h
  obtain ⟨d, hd, h⟩ := h
  have hinfo := hZ.info _ _ hi
  have hud := hZ.und _ _ hd
  split at h
  · rename_i fs
    simp only [Option.bind_eq_some_iff] at h
    obtain ⟨cells, hf, h⟩ := h
    split at h <;> try (cases h; done)
    rename_i hall
    cases h
    refine ⟨?_, und_agg fun x hx => fill_mem _ _ _ _ hf (und_plain_cells hp') hu x (by simpa using hx)⟩
    have hpl : (fs.mapM fun (f : Field) => (do pure (f.offset, ← sizeOf f.type) : Sem (Nat × Nat))).run p.P w =
        .ok (fs.map fun (f : Field) => (f.offset, ((Z.info f.type).map (·.size)).getD 0)) w := by
      refine run_mapM_arr _ _ _ (fun f hf w => ?_) w
      have := (Array.all_eq_true_iff_forall_mem.1 hall) f hf
      obtain ⟨j, hj⟩ := Option.isSome_iff_exists.1 this
      simp [r_size (hZ.info _ _ hj), hj]
    have hfill := fill_sound (e := e) _ _ _ _ hf
    rw [plain_cells hp'] at hfill
    have hg : ∀ k : Nat, ((fs.map fun (f : Field) => (f.offset, ((Z.info f.type).map (·.size)).getD 0))[k]? : Option (Nat × Nat)) = (fs[k]?).bind fun (f : Field) => (Z.info f.type).map fun j => (f.offset, j.size) := by
      intro k
      rw [Array.getElem?_map]
      cases hk : fs[k]? with
      | none => rfl
      | some f =>
        have := (Array.all_eq_true_iff_forall_mem.1 hall) f (Array.mem_of_getElem? hk)
        obtain ⟨j, hj⟩ := Option.isSome_iff_exists.1 this
        simp [hj]
    simp only [Instr.build, Sem.run_bind, r_zero hinfo hz, Result.andThen_ok, r_und hud]
    rw [hpl]
    simp only [Result.andThen_ok]
    rw [fill_congr hg, Array.toList_map]
    rw [show z.cells = z.cells.toList.toArray by simp, hfill]
    simp
  · rename_i k el
    simp only [Option.bind_eq_some_iff] at h
    obtain ⟨j, hj, cells, hf, h⟩ := h
    cases h
    refine ⟨?_, und_agg fun x hx => fill_mem _ _ _ _ hf (und_plain_cells hp') hu x (by simpa using hx)⟩
    have hfill := fill_sound (e := e) _ _ _ _ hf
    rw [plain_cells hp'] at hfill
    simp only [Instr.build, Sem.run_bind, r_zero hinfo hz, Result.andThen_ok, r_und hud, r_size (hZ.info _ _ hj)]
    rw [Array.toList_map, show z.cells = z.cells.toList.toArray by simp, hfill]
    simp
  · cases h

theorem zerosA_length (z : List Value) : ∀ n, (zerosA z n).length = n * z.length
  | 0 => by simp [zerosA]
  | n + 1 => by simp [zerosA, zerosA_length z n, Nat.succ_mul]; omega
theorem zerosA_get (z : List Value) (hz : 0 < z.length) : ∀ (n i : Nat), i < n * z.length → (zerosA z n)[i]? = z[i % z.length]?
  | 0, i, h => by simp at h
  | n + 1, i, h => by
    simp only [zerosA]
    by_cases hi : i < z.length
    · rw [List.getElem?_append_left hi, Nat.mod_eq_of_lt hi]
    · rw [List.getElem?_append_right (by omega), zerosA_get z hz n (i - z.length) (by rw [Nat.succ_mul] at h; omega)]
      rw [Nat.mod_eq_sub_mod (by omega : i ≥ z.length)]
theorem zerosA_mem (z : List Value) : ∀ (n : Nat) (v : Value), v ∈ zerosA z n → v ∈ z
  | 0, v, h => by simp [zerosA] at h
  | n + 1, v, h => by
    simp only [zerosA, List.mem_append] at h
    exact h.elim id (zerosA_mem z n v)
theorem zeros_eq (z : Array Value) (n s : Nat) (hs : z.size = s) : (Array.range (n * s)).map (fun i => z[i % z.size]!) = (zerosA z.toList n).toArray := by
  apply Array.ext'
  apply List.ext_getElem?
  intro i
  have hl : z.toList.length = s := by simpa using hs
  by_cases hi : i < n * s
  · have hpos : 0 < s := by
      rcases Nat.eq_zero_or_pos s with h | h
      · rw [h] at hi; simp at hi
      · exact h
    have hlt : i % s < z.size := by rw [hs]; exact Nat.mod_lt _ hpos
    rw [zerosA_get z.toList (by omega) n i (by rw [hl]; exact hi)]
    simp [hi, hs, hl]
    rw [getElem!_pos z (i % s) hlt, Array.getElem?_eq_getElem hlt]
  · have h1 : (zerosA z.toList n)[i]? = none := List.getElem?_eq_none (by rw [zerosA_length, hl]; omega)
    have h2 : ((Array.range (n * s)).map fun i => z[i % z.size]!).toList[i]? = none := List.getElem?_eq_none (by simp; omega)
    rw [h1, h2]

theorem buildSliceA_sound (hZ : TOk Z p) (hR : Rel p e H w) (hs : H.next + 2 < 2 ^ 40) {t : TypeId} {len : Nat} {parts : Array (Nat × Value)} {v : Value} {d : Delta} (h : buildSliceA Z H t len parts.toList = some (v, d))
    (hu : ∀ x ∈ parts.toList, Und H.D x.2) :
    ∃ e' w', (Instr.buildSlice t len (parts.map fun x => (x.1, ren e x.2))).run p.P w = .ok (ren e' v) w' ∧ Step p e H w e' (H.app d) w' ∧ Und (H.app d).D v := by
  simp only [buildSliceA, Option.bind_eq_bind, Option.bind_eq_some_iff] at h
  obtain ⟨d1, hd, h⟩ := h
  split at h <;> try (cases h; done)
  rename_i el
  simp only [Option.bind_eq_some_iff] at h
  obtain ⟨i, hi, z, hz, h⟩ := h
  split at h
  · cases h
  rename_i hc
  simp only [Bool.or_eq_true, decide_eq_true_eq, not_or, ne_eq, Decidable.not_not, Nat.not_lt, Bool.not_eq_true', Bool.not_eq_false] at hc
  obtain ⟨⟨hp, hzs⟩, hbig⟩ := hc
  simp only [Option.bind_eq_some_iff] at h
  obtain ⟨cells, hf, h⟩ := h
  cases h
  have hud := hZ.und _ _ hd
  have hinfo := hZ.info _ _ hi
  have hfill := fill_sound (e := e) _ _ _ _ hf
  have hzm : (zerosA z.cells.toList len).map (ren e) = zerosA z.cells.toList len := by
    conv => rhs; rw [← List.map_id (zerosA z.cells.toList len)]
    refine List.map_congr_left fun x hx => ?_
    have hx' := zerosA_mem _ _ _ hx
    have := plain_cells (e := e) hp
    have h2 : z.cells.toList.map (ren e) = z.cells.toList.map id := by rw [this, List.map_id]
    exact List.map_inj_left.1 h2 x hx'
  rw [hzm] at hfill
  have hcu : ∀ x ∈ cells, Und H.D x := fill_mem _ _ _ _ hf (fun x hx => und_plain_cells hp x (zerosA_mem _ _ _ hx)) hu
  refine ⟨_, _, ?_, Step.row hR (el := el) hcu hs, (und_slice hR.newD)⟩
  have hrow : ((Array.range (len * i.size)).map fun k => (if len * i.size = 0 then #[] else z.cells)[k % (if len * i.size = 0 then #[] else z.cells).size]!) = (zerosA z.cells.toList len).toArray := by
    by_cases h0 : len * i.size = 0
    · rw [if_pos h0, h0]
      have : (zerosA z.cells.toList len).length = 0 := by rw [zerosA_length]; simpa [hzs] using h0
      rw [List.length_eq_zero_iff.1 this]
      simp
    · simp only [if_neg h0]
      exact zeros_eq z.cells len i.size hzs
  simp only [Instr.buildSlice, Sem.run_bind, r_und hud, Result.andThen_ok, r_size hinfo]
  rw [if_neg (by omega)]
  by_cases h0 : len * i.size = 0
  · simp only [if_pos h0] at hrow ⊢
    simp only [Sem.run_bind, Sem.run_pure, Result.andThen_ok]
    rw [hrow, Array.toList_map, hfill]
    simp [run_newRow, Env.addr, hR.shiftN hR.nxt, Nat.add_zero]
  · simp only [if_neg h0] at hrow ⊢
    simp only [Sem.run_bind, Sem.run_pure, Result.andThen_ok, r_zero hinfo hz]
    rw [hrow, Array.toList_map, hfill]
    simp [run_newRow, Env.addr, hR.shiftN hR.nxt, Nat.add_zero]

theorem makeSliceA_sound (hZ : TOk Z p) (hR : Rel p e H w) (hs : H.next + 2 < 2 ^ 40) {t : TypeId} {len cap v : Value} {d : Delta} (h : makeSliceA Z H t len cap = some (v, d)) :
    ∃ e' w', (Instr.makeSlice t (ren e len) (ren e cap)).run p.P w = .ok (ren e' v) w' ∧ Step p e H w e' (H.app d) w' ∧ Und (H.app d).D v := by
  simp only [makeSliceA, Option.bind_eq_bind, Option.bind_eq_some_iff] at h
  obtain ⟨d1, hd, h⟩ := h
  split at h <;> try (cases h; done)
  rename_i el
  simp only [Option.bind_eq_some_iff] at h
  obtain ⟨i, hi, h⟩ := h
  split at h <;> try (cases h; done)
  rename_i k1 l
  split at h <;> try (cases h; done)
  rename_i k2 c
  split at h <;> try (cases h; done)
  rename_i hc
  obtain ⟨h0, hlc, hc30, hby⟩ := hc
  simp only [Option.bind_eq_some_iff] at h
  obtain ⟨z, hz, h⟩ := h
  split at h
  · cases h
  rename_i hcc
  simp only [Bool.or_eq_true, decide_eq_true_eq, not_or, ne_eq, Decidable.not_not, Bool.not_eq_true', Bool.not_eq_false] at hcc
  obtain ⟨⟨hp, hzs⟩, hi0⟩ := hcc
  cases h
  have hud := hZ.und _ _ hd
  have hinfo := hZ.info _ _ hi
  have hzu : ∀ x ∈ zerosA z.cells.toList c.toNat, Und H.D x := fun x hx => und_plain_cells hp x (zerosA_mem _ _ _ hx)
  have hzm : (zerosA z.cells.toList c.toNat).map (ren e) = zerosA z.cells.toList c.toNat := by
    conv => rhs; rw [← List.map_id (zerosA z.cells.toList c.toNat)]
    refine List.map_congr_left fun x hx => ?_
    have hx' := zerosA_mem _ _ _ hx
    have := plain_cells (e := e) hp
    have h2 : z.cells.toList.map (ren e) = z.cells.toList.map id := by rw [this, List.map_id]
    exact List.map_inj_left.1 h2 x hx'
  refine ⟨_, _, ?_, Step.row hR (el := el) hzu hs, (und_slice hR.newD)⟩
  have w1 : IntKind.i64.wrap l = l := IntWalk.i64_in l (by omega)
  have w2 : IntKind.i64.wrap c = c := IntWalk.i64_in c (by omega)
  have hb : ¬ ((i.bytes : Int) * c > 2 ^ 48) := by
    obtain ⟨m, rfl⟩ := Int.eq_ofNat_of_zero_le (by omega : 0 ≤ c)
    have h1 : m ≤ 2 ^ 30 := by omega
    have h2 := Nat.mul_le_mul hby h1
    have h3 : ((i.bytes : Int) * (m : Int)) = ((i.bytes * m : Nat) : Int) := by simp
    rw [h3]
    omega
  have ht : ((decide (c < 0) || decide ((i.bytes : Int) * c > 2 ^ 48)) || decide (l < 0) || decide (l > c)) = false := by
    simp only [Bool.or_eq_false_iff, decide_eq_false_iff_not]
    exact ⟨⟨⟨by omega, hb⟩, by omega⟩, by omega⟩
  have hn : ¬ (c.toNat * i.size = 0 ∧ 0 < c.toNat) := by
    rintro ⟨h1, h2⟩
    rcases Nat.mul_eq_zero.1 h1 with h | h
    · omega
    · exact hi0 h
  have hrow : ((Array.range (c.toNat * i.size)).map fun k => (if c.toNat * i.size = 0 then #[] else z.cells)[k % (if c.toNat * i.size = 0 then #[] else z.cells).size]!) = (zerosA z.cells.toList c.toNat).toArray := by
    by_cases h0 : c.toNat * i.size = 0
    · rw [if_pos h0, h0]
      have : (zerosA z.cells.toList c.toNat).length = 0 := by rw [zerosA_length]; simpa [hzs] using h0
      rw [List.length_eq_zero_iff.1 this]
      simp
    · simp only [if_neg h0]
      exact zeros_eq z.cells c.toNat i.size hzs
  simp only [Instr.makeSlice, ren_int, asInt, asIntOf, Sem.run_bind, r_und hud, Result.andThen_ok, Sem.run_pure, r_info hinfo, w1, w2, ht, Bool.false_eq_true, if_false, run_askRoom, r_size hinfo]
  by_cases h0 : c.toNat * i.size = 0
  · simp only [if_pos h0] at hrow ⊢
    simp only [Sem.run_bind, Sem.run_pure, Result.andThen_ok]
    rw [hrow]
    simp [run_newRow, Env.addr, hR.shiftN hR.nxt, Nat.add_zero, hzm]
  · simp only [if_neg h0] at hrow ⊢
    simp only [Sem.run_bind, Sem.run_pure, Result.andThen_ok, r_zero hinfo hz]
    rw [hrow]
    simp [run_newRow, Env.addr, hR.shiftN hR.nxt, Nat.add_zero, hzm]
end Go.Eng

namespace Go.Eng
variable [Shift]
variable {p : Par} {e e' : Env} {H H' : Heap} {w w' : World} {Z : Tab}

theorem copyA_sound (hZ : TOk Z p) (hR : Rel p e H w) {argTypes : Array TypeId} {ty : TypeId} {s x v : Value} {d : Delta} (h : copyA Z H argTypes s x = some (v, d)) (hux : Und H.D x) :
    ∃ w', (Builtin.copy_ argTypes ty #[ren e s, ren e x]).run p.P w = .ok (ren e v) w' ∧ Step p e H w e (H.app d) w' ∧ Und (H.app d).D v := by
  simp only [copyA, Option.bind_eq_bind, Option.bind_eq_some_iff] at h
  obtain ⟨st, h0, dst, hdst, h⟩ := h
  split at h <;> try (cases h; done)
  rename_i el
  have ust := hZ.und _ _ hdst
  split at h <;> try (cases h; done)
  rename_i base dLen dCap
  simp only [Option.bind_eq_some_iff] at h
  obtain ⟨i, hi, m, hm, cells, hc, h⟩ := h
  have hinfo := hZ.info _ _ hi
  have hlen := lenOfA_sound (e := e) (P := p.P) (w := w) hm
  obtain ⟨hcR, hcU⟩ := firstCellsA_sound hR hc hux
  cases base with
  | none =>
    cases h
    refine ⟨w, ?_, Step.refl hR, und_int _ _⟩
    simp [Builtin.copy_, h0, r_und ust, hlen, r_size hinfo, hcR, goInt]
  | some a =>
    simp only at h
    split at h
    · rename_i hemp
      cases h
      have hnil : cells = [] := by simpa using hemp
      subst hnil
      refine ⟨w, ?_, Step.refl hR, und_int _ _⟩
      simp [Builtin.copy_, h0, r_und ust, hlen, r_size hinfo, hcR, goInt, storeCells]
    · simp only [Option.bind_eq_some_iff] at h
      obtain ⟨d', hd', h⟩ := h
      cases h
      obtain ⟨w', hrun, hstep, _⟩ := storeCellsA_sound hZ hR hd' hcU
      refine ⟨w', ?_, hstep, und_int _ _⟩
      simp [Builtin.copy_, h0, r_und ust, hlen, r_size hinfo, hcR, goInt, hrun]

theorem byteOf_some {v : Value} {b : UInt8} (h : byteOf? v = some b) : v = .int .u8 b.toNat := by
  unfold byteOf? at h
  split at h <;> try (cases h; done)
  rename_i n
  split at h <;> try (cases h; done)
  rename_i hn
  cases h
  obtain ⟨m, rfl⟩ := Int.eq_ofNat_of_zero_le hn.1
  have hm : m < 256 := by omega
  simp [Nat.mod_eq_of_lt hm]
theorem mapM_byteOf : ∀ (r : List Value) (bs : List UInt8), r.mapM byteOf? = some bs → r = bs.map fun b => .int .u8 b.toNat
  | [], bs, h => by simp at h; subst h; rfl
  | x :: r, bs, h => by
    simp only [List.mapM_cons, Option.bind_eq_bind, Option.bind_eq_some_iff] at h
    obtain ⟨b1, hb1, bs', hb2, hb3⟩ := h
    cases hb3
    rw [byteOf_some hb1, mapM_byteOf r bs' hb2]
    rfl

theorem unsafeStrA_sound (hZ : TOk Z p) (hR : Rel p e H w) {argTypes : Array TypeId} {ty : TypeId} {a : Addr} {n : Int} {v : Value} {d : Delta} (h : unsafeStrA Z H argTypes a n = some (v, d)) :
    ∃ w', (Builtin.unsafeString_ argTypes ty #[.pointer (some (e.addr a)), .int .i64 n]).run p.P w = .ok (ren e v) w' ∧ Step p e H w e (H.app d) w' ∧ Und (H.app d).D v := by
  simp only [unsafeStrA] at h
  split at h
  · cases h
  rename_i hc
  simp only [Bool.or_eq_true, decide_eq_true_eq, not_or, Int.not_le, Int.not_lt, Nat.not_lt, Bool.not_eq_true, Option.isSome_eq_false_iff, Option.isNone_iff_eq_none, ne_eq, Decidable.not_not] at hc
  obtain ⟨⟨⟨⟨hs, hn0⟩, hn1⟩, hN0⟩, hoff⟩ := hc
  rw [hZ.n0] at hN0
  simp only [Option.bind_eq_bind, Option.bind_eq_some_iff] at h
  obtain ⟨o, ho, h⟩ := h
  cases o with
  | loop => simp at h
  | deferred => simp at h
  | map => simp at h
  | cells c el fz g =>
    simp only at h
    split at h
    · cases h
    rename_i hfg
    simp only [Bool.or_eq_true, decide_eq_true_eq, not_or, ne_eq, Decidable.not_not, Bool.not_eq_true] at hfg
    obtain ⟨rfl, rfl⟩ := hfg
    split at h <;> try (cases h; done)
    rename_i pt it hat
    have hat' : argTypes = #[pt, it] := by apply Array.ext'; simpa using hat
    subst hat'
    simp only [Option.bind_eq_some_iff] at h
    obtain ⟨dpt, hdpt, h⟩ := h
    split at h <;> try (cases h; done)
    rename_i u
    simp only [Option.bind_eq_some_iff] at h
    obtain ⟨i, hi, h⟩ := h
    split at h
    · cases h
    rename_i hsz
    simp only [Bool.or_eq_true, decide_eq_true_eq, not_or, ne_eq, Decidable.not_not] at hsz
    obtain ⟨hsz, rfl⟩ := hsz
    simp only [Option.bind_eq_some_iff] at h
    obtain ⟨r, hr, bs, hbs, h⟩ := h
    cases h
    have hinfo := hZ.info _ _ hi
    obtain ⟨ro, hro, tail, el', fz', rfl, hg1, hg2, hg3⟩ := hR.obj _ _ ho
    obtain ⟨rfl, hfz⟩ := hg2 hN0
    have hfz' : fz' = (0, 0) := by rcases hfz with h | h; exact h; exact absurd rfl h.1
    subst hfz'
    obtain ⟨htail, hσ⟩ := hg1 rfl
    subst htail
    have hle := takeN_le hr (by omega)
    have he : e.addr a = ⟨e.ρ a.block, 0, none⟩ := by rw [hR.addrS hs ho, hoff]
    have hin := (Array.getElem?_eq_some_iff.1 hro).1
    have hshape : w.shape? (e.ρ a.block) = some (el', c.length) := by simp [World.shape?, hro]
    have hrl := (takeN_some hr).2
    have hrb := mapM_byteOf r bs hbs
    have hbl : bs.length = n.toNat := by rw [← hrl, hrb, List.length_map]
    have hnl : (n : Int) = ((bs.length : Nat) : Int) := by omega
    have hcell : ∀ j x, bs[j]? = some x → w.cell? ((⟨e.ρ a.block, 0, none⟩ : Addr).add j) = some (.int .u8 x.toNat) := by
      intro j x hx
      have h1 : r[j]? = some (.int .u8 x.toNat) := by rw [hrb, List.getElem?_map, hx]; rfl
      have := hR.cell ho (takeN_get hr j _ h1)
      rw [hoff] at this
      rw [add_spot rfl]
      simpa using this
    have hrun := Lib.run_unsafeString_row (P := p.P) w pt it ty el' (hZ.und _ _ hdpt) (by simp [Program.cellsOf, hinfo, hsz]) (e.ρ a.block) c.length hshape bs (by intro h0; rw [h0] at hbl; simp at hbl; omega)
      (by rw [hbl]; omega) (by rw [hbl]; omega) hcell
    rw [← hnl, hbl] at hrun
    have hfr : w.freeze ⟨e.ρ a.block, 0, none⟩ n.toNat = World.setBlk w (e.ρ a.block) (.cells ((c.map (ren e)).toArray ++ #[]) el' (0, n.toNat)) := by
      simp only [World.freeze, World.setBlk]
      rw [if_neg (by omega)]
      congr 1
      apply Array.ext_getElem?
      intro k
      rw [Array.getElem?_modify]
      by_cases hk : e.ρ a.block = k
      · subst hk; simp only [if_true, hro]; simp [hin]
      · rw [if_neg hk, Array.getElem?_setIfInBounds_ne hk]
    refine ⟨World.setBlk w (e.ρ a.block) (.cells ((c.map (ren e)).toArray ++ #[]) el' (0, n.toNat)), ?_, ?_, und_string _⟩
    · rw [he, hrun, hfr]; simp
    · refine Step.put hR a.block _ _ _ ho hN0 (show ∀ v ∈ c, Und H.D v from hR.und _ _ ho) ?_ rfl rfl rfl rfl
      exact ⟨#[], el', _, rfl, fun _ => ⟨rfl, hσ⟩, fun _ => ⟨rfl, .inl rfl⟩, hg3⟩
end Go.Eng

namespace Go.Eng
variable [Shift]
variable {p : Par} {e e' : Env} {H H' : Heap} {w w' : World} {Z : Tab}

theorem zeroA_run (hZ : TOk Z p) {t : TypeId} {z : Value} (h : zeroA Z t = some z) : (∀ w, (zeroValue t).run p.P w = .ok z w) ∧ plain 3 z = true := by
  unfold zeroA at h
  split at h <;> try (cases h; done)
  rename_i i hi
  split at h <;> try (cases h; done)
  rename_i z' hz
  cases hp : plain 3 z' with
  | false => rw [hp] at h; cases h
  | true => rw [hp] at h; cases h; exact ⟨fun w => r_zero (hZ.info _ _ hi) hz w, hp⟩

/-! ### Keys -/
theorem keyFields_run (hZ : TOk Z p) {em : Bool} {d : Nat} {f : TypeId → Value → Bool} (hfg : ∀ t a, f t a = true → ∀ w, (Instr.checkKey em d t (ren e a)).run p.P w = .ok () w) {xs : Array Value} (w : World) : ∀ (fs : List Field), keyFieldsA Z f xs fs = true →
    (forIn fs PUnit.unit (fun (fl : Field) (__s : PUnit) =>
            if fl.name ≠ "_" then do
              let __do_lift ← part fl.type (xs.map (ren e)) fl.offset
              Instr.checkKey em d fl.type __do_lift
              pure (ForInStep.yield PUnit.unit)
            else pure (ForInStep.yield PUnit.unit) : Field → PUnit → Sem (ForInStep PUnit))).run p.P w = .ok PUnit.unit w
  | [], h => by simp
  | fl :: fs, h => by
    simp only [keyFieldsA, Bool.and_eq_true] at h
    rw [List.forIn_cons]
    by_cases hn : fl.name = "_"
    · rw [if_neg (by simp [hn])]
      simp only [Sem.run_bind, Sem.run_pure, Result.andThen_ok]
      exact keyFields_run hZ hfg w fs h.2
    · rw [if_pos hn]
      have h1 := h.1
      rw [if_neg hn] at h1
      split at h1 <;> try (cases h1; done)
      rename_i a ha
      simp only [Sem.run_bind, partA_run hZ ha, Result.andThen_ok, hfg _ _ h1, Sem.run_pure]
      exact keyFields_run hZ hfg w fs h.2
theorem keyElems_run (hZ : TOk Z p) {em : Bool} {d : Nat} {el : TypeId} {i : TypeInfo} (hi : p.P.info? el = some i) {f : Value → Bool} (hfg : ∀ a, f a = true → ∀ w, (Instr.checkKey em d el (ren e a)).run p.P w = .ok () w) {xs : Array Value} (w : World) : ∀ (n j : Nat), keyElemsA Z f el i.size xs j n = true →
    (forIn (List.range' j n) PUnit.unit (fun (k : Nat) (__s : PUnit) => do
            let __do_lift ← sizeOf el
            let __do_lift ← part el (xs.map (ren e)) (k * __do_lift)
            Instr.checkKey em d el __do_lift
            pure (ForInStep.yield PUnit.unit) : Nat → PUnit → Sem (ForInStep PUnit))).run p.P w = .ok PUnit.unit w
  | 0, j, h => by simp
  | n + 1, j, h => by
    simp only [keyElemsA, Bool.and_eq_true] at h
    rw [List.range'_succ, List.forIn_cons]
    have h1 := h.1
    split at h1 <;> try (cases h1; done)
    rename_i a ha
    simp only [Sem.run_bind, r_size hi, partA_run hZ ha, Result.andThen_ok, hfg _ h1, Sem.run_pure]
    exact keyElems_run hZ hi hfg w n (j + 1) h.2
theorem keyOkA_run (hZ : TOk Z p) (em : Bool) : ∀ (n : Nat) (t : TypeId) (v : Value), keyOkA Z n t v = true → ∀ d, n ≤ d → ∀ w, (Instr.checkKey em d t (ren e v)).run p.P w = .ok () w
  | 0, t, v, h, d, hd, w => by simp [keyOkA] at h
  | n + 1, t, v, h, d, hd, w => by
    obtain ⟨d, rfl⟩ : ∃ d', d = d' + 1 := ⟨d - 1, by omega⟩
    have hd' : n ≤ d := by omega
    simp only [keyOkA] at h
    split at h
    · rename_i hu; simp [Instr.checkKey, r_und (hZ.und _ _ hu)]
    · rename_i hu; simp [Instr.checkKey, r_und (hZ.und _ _ hu)]
    · rename_i hu; simp [Instr.checkKey, r_und (hZ.und _ _ hu)]
    · rename_i fs xs hu
      have hloop := keyFields_run (e := e) hZ (em := em) (d := d) (fun t a hr w => keyOkA_run hZ em n t a hr d hd' w) w fs.toList h
      unfold Instr.checkKey
      simp only [ren_agg, Sem.run_bind, r_und (hZ.und _ _ hu), Result.andThen_ok]
      rw [← Array.forIn_toList]
      exact Eq.trans (congrArg (fun r => Result.andThen r _) hloop) rfl
    · rename_i len el xs hu
      split at h <;> try (cases h; done)
      rename_i i hi
      have hloop := keyElems_run (e := e) hZ (em := em) (d := d) (hZ.info _ _ hi) (fun a hr w => keyOkA_run hZ em n el a hr d hd' w) w len 0 h
      unfold Instr.checkKey
      simp only [ren_agg, Sem.run_bind, r_und (hZ.und _ _ hu), Result.andThen_ok]
      rw [Std.Legacy.Range.forIn_eq_forIn_range']
      simp only [Std.Legacy.Range.size, Nat.sub_zero, Nat.add_sub_cancel, Nat.div_one]
      exact Eq.trans (congrArg (fun r => Result.andThen r _) hloop) rfl
    · cases h

theorem sameNow_scalar {d : TypeDesc} {k x : Value} {b : Bool} (h : Instr.sameNow d k x = some b) : scalar x = true := by
  unfold Instr.sameNow at h
  split at h <;> first | rfl | cases h
theorem findNow_ren {d : TypeDesc} {k : Value} : ∀ (es : List MapEntry) (i : Nat) (r : Option (Nat × Value)), Instr.findNow d k es i = some r →
    Instr.findNow d k (es.map (renM e)) i = some (r.map fun x => (x.1, ren e x.2))
  | [], i, r, h => by simp only [Instr.findNow, Option.some.injEq] at h; subst h; rfl
  | x :: es, i, r, h => by
    simp only [Instr.findNow] at h
    simp only [List.map_cons, Instr.findNow, renM]
    split at h <;> try (cases h; done)
    · rename_i hs
      cases h
      rw [ren_scalar (sameNow_scalar hs), hs]
      rfl
    · rename_i hs
      rw [ren_scalar (sameNow_scalar hs), hs]
      exact findNow_ren es (i + 1) r h
theorem findNow_und {d : TypeDesc} {k : Value} {n : Nat → Prop} : ∀ (es : List MapEntry) (i : Nat) (r : Nat × Value), Instr.findNow d k es i = some (some r) → (∀ x ∈ es, Und n x.val) → Und n r.2
  | [], i, r, h, _ => by simp [Instr.findNow] at h
  | x :: es, i, r, h, hu => by
    simp only [Instr.findNow] at h
    split at h <;> try (cases h; done)
    · cases h; exact hu x (by simp)
    · exact findNow_und es (i + 1) r h fun y hy => hu y (by simp [hy])
theorem findL_run (hZ : TOk Z p) {kt : TypeId} {k : Value} (w : World) : ∀ (es : List MapEntry) (i : Nat) (r : Option (Nat × Value)), findL (eqV Z 6 kt k) es i = some r →
    (Instr.findAsking kt (ren e k) (es.map (renM e)) i).run p.P w = .ok (r.map fun x => (x.1, ren e x.2)) w
  | [], i, r, h => by simp only [findL, Option.some.injEq] at h; subst h; simp [Instr.findAsking]
  | x :: es, i, r, h => by
    simp only [findL] at h
    simp only [List.map_cons, Instr.findAsking, renM, Sem.run_bind]
    split at h <;> try (cases h; done)
    · rename_i hs
      cases h
      rw [eqV_equal hZ hs]
      simp
    · rename_i hs
      rw [eqV_equal hZ hs]
      simp only [Result.andThen_ok, Bool.false_eq_true, if_false]
      exact findL_run hZ w es (i + 1) r h
theorem findL_und {f : Value → Option Bool} {n : Nat → Prop} : ∀ (es : List MapEntry) (i : Nat) (r : Nat × Value), findL f es i = some (some r) → (∀ x ∈ es, Und n x.val) → Und n r.2
  | [], i, r, h, _ => by simp [findL] at h
  | x :: es, i, r, h, hu => by
    simp only [findL] at h
    split at h <;> try (cases h; done)
    · cases h; exact hu x (by simp)
    · exact findL_und es (i + 1) r h fun y hy => hu y (by simp [hy])
theorem findA_run (hZ : TOk Z p) {kt : TypeId} {k : Value} {es : List MapEntry} {r : Option (Nat × Value)} (h : findA Z kt k es = some r) (hk : ren e k = k) (w : World) :
    (Instr.findKey kt (ren e k) (es.map (renM e))).run p.P w = .ok (r.map fun x => (x.1, ren e x.2)) w := by
  unfold findA at h
  have now : ∀ d, p.P.underlying kt = some d → Instr.findNow d k es 0 = some r → (Instr.findKey kt (ren e k) (es.map (renM e))).run p.P w = .ok (r.map fun x => (x.1, ren e x.2)) w := by
    intro d hd hf
    rw [hk]
    simp only [Instr.findKey, Sem.run_bind, r_und hd, Result.andThen_ok, findNow_ren es 0 r hf, Sem.run_pure]
  have ask : ∀ d, p.P.underlying kt = some d → (∀ k x, Instr.sameNow d k x = none) → findL (eqV Z 6 kt k) es 0 = some r → (Instr.findKey kt (ren e k) (es.map (renM e))).run p.P w = .ok (r.map fun x => (x.1, ren e x.2)) w := by
    intro d hd hn hf
    simp only [Instr.findKey, Sem.run_bind, r_und hd, Result.andThen_ok]
    cases es with
    | nil => simp only [findL, Option.some.injEq] at hf; subst hf; simp [Instr.findNow]
    | cons x es =>
      have : Instr.findNow d (ren e k) ((x :: es).map (renM e)) 0 = none := by simp [Instr.findNow, hn]
      rw [this]
      exact findL_run hZ w (x :: es) 0 r hf
  split at h
  · rename_i hu; exact now _ (hZ.und _ _ hu) h
  · rename_i hu; exact now _ (hZ.und _ _ hu) h
  · rename_i hu; exact now _ (hZ.und _ _ hu) h
  · rename_i hu; exact ask _ (hZ.und _ _ hu) (fun _ _ => rfl) h
  · rename_i hu; exact ask _ (hZ.und _ _ hu) (fun _ _ => rfl) h
  · cases h
theorem findA_und {kt : TypeId} {k : Value} {es : List MapEntry} {r : Nat × Value} {n : Nat → Prop} (h : findA Z kt k es = some (some r)) (hu : ∀ x ∈ es, Und n x.val) : Und n r.2 := by
  unfold findA at h
  split at h
  · exact findNow_und es 0 r h hu
  · exact findNow_und es 0 r h hu
  · exact findNow_und es 0 r h hu
  · exact findL_und es 0 r h hu
  · exact findL_und es 0 r h hu
  · cases h

theorem Rel.mapObj (h : Rel p e H w) {r : Nat} {es : List MapEntry} {cl : Nat} (hb : H.get r = some (.map es cl)) : w.heap[e.ρ r]? = some (.map (es.map (renM e)).toArray cl) := by
  obtain ⟨o, ho, hor⟩ := h.obj _ _ hb
  simp only [ORel] at hor
  rw [ho, hor]
theorem r_getMap {P : Program} {r : Nat} {es : Array MapEntry} {cl : Nat} (hb : w.heap[r]? = some (.map es cl)) : (getObj r).run P w = .ok (.map es cl) w := by
  simp [getObj, Sem.run, hb]
theorem r_setMap {P : Program} {r : Nat} {es : Array MapEntry} {cl : Nat} (o : Obj) (hb : w.heap[r]? = some (.map es cl)) : (setObj r o).run P w = .ok () { w with heap := w.heap.setIfInBounds r o } := by
  simp [setObj, Sem.run, hb]
theorem Step.putMap (h : Rel p e H w) {r : Nat} {es es' : List MapEntry} {cl cl' : Nat} (hb : H.get r = some (.map es cl)) (hn : p.N0 ≤ r) (hu : ∀ x ∈ es', Und H.D x.key ∧ Und H.D x.val) :
    Step p e H w e (H.set r (some (.map es' cl'))) { w with heap := w.heap.setIfInBounds (e.ρ r) (.map (es'.map (renM e)).toArray cl') } :=
  Step.put h r _ _ _ hb hn hu rfl rfl rfl rfl rfl

theorem modify_ren (es : List MapEntry) (i : Nat) (f g : MapEntry → MapEntry) (h : ∀ x, renM e (f x) = g (renM e x)) : (es.map (renM e)).toArray.modify i g = ((es.modify i f).map (renM e)).toArray := by
  apply Array.ext'
  simp only [Array.toList_modify]
  apply List.ext_getElem?
  intro k
  simp only [List.getElem?_modify, List.getElem?_map]
  by_cases hk : i = k
  · subst hk
    cases es[i]? <;> simp [h]
  · simp only [hk, if_false]
    cases es[k]? <;> simp
theorem modify_und {es : List MapEntry} {i : Nat} {f : MapEntry → MapEntry} {n : Nat → Prop} (hu : ∀ x ∈ es, Und n x.key ∧ Und n x.val) (hf : ∀ x ∈ es, Und n (f x).key ∧ Und n (f x).val) : ∀ x ∈ es.modify i f, Und n x.key ∧ Und n x.val := by
  intro x hx
  obtain ⟨k, hk⟩ := List.mem_iff_getElem?.1 hx
  rw [List.getElem?_modify] at hk
  cases hes : es[k]? with
  | none => rw [hes] at hk; simp at hk
  | some y =>
    rw [hes] at hk
    have hy := List.mem_of_getElem? hes
    have hk' : (if i = k then f y else y) = x := by simpa using hk
    by_cases hik : i = k
    · rw [if_pos hik] at hk'
      subst hk'; exact hf y hy
    · rw [if_neg hik] at hk'
      subst hk'; exact hu y hy

theorem lookupA_sound (hZ : TOk Z p) (hR : Rel p e H w) {t : TypeId} {x ix v : Value} {ok : Bool} (h : lookupA Z H t x ix ok = some v) :
    (Instr.lookup t (ren e x) (ren e ix) ok).run p.P w = .ok (ren e v) w ∧ Und H.D v := by
  simp only [lookupA, Option.bind_eq_bind, Option.bind_eq_some_iff] at h
  obtain ⟨d, hd, h⟩ := h
  split at h <;> try (cases h; done)
  rename_i kt el
  split at h <;> try (cases h; done)
  rename_i hk
  have hk' : keyOkA Z 5 kt ix = true ∧ plain 3 ix = true := by simpa using hk
  simp only [Option.bind_eq_some_iff] at h
  obtain ⟨z, hz, es, hes, a, ha, h⟩ := h
  have hix : ren e ix = ix := ren_plain 3 ix hk'.2
  obtain ⟨hz1, hz2⟩ := zeroA_run hZ hz
  have key := fun em => keyOkA_run (e := e) hZ em 5 kt ix hk'.1 10000 (by decide) w
  have hud := hZ.und _ _ hd
  have hes' : (∀ y ∈ es, Und H.D y.val) ∧ ∀ {β : Type} (k : Array MapEntry → Sem β) , ((do
      let es ← match ren e x with
        | .map none => pure #[]
        | .map (some r) => do
          let .map es _ ← getObj r | stuck "Lookup: map expected"
          pure es
        | _ => stuck "Lookup: map expected"
      k es : Sem β)).run p.P w = (k (es.map (renM e)).toArray).run p.P w := by
    unfold mapRowsA at hes
    split at hes
    · cases hes
      exact ⟨fun y hy => (by cases hy), fun k => by simp⟩
    · rename_i r
      split at hes <;> try (cases hes; done)
      rename_i es' cl ho
      cases hes
      exact ⟨fun y hy => (hR.und _ _ ho y hy).2, fun k => by simp [r_getMap (hR.mapObj ho)]⟩
    · cases hes
  have hfind := findA_run (e := e) hZ ha hix w
  have hrun : (Instr.lookup t (ren e x) (ren e ix) ok).run p.P w = (do
      let (v, ok') ← match ← Instr.findKey kt (ren e ix) (es.map (renM e)).toArray.toList with
        | some (_, v) => pure (v, true)
        | none => pure (← zeroValue el, false)
      pure (if ok then .tuple #[v, .bool ok'] else v) : Sem Value).run p.P w := by
    unfold Instr.lookup
    simp only [Sem.run_bind, r_und hud, Result.andThen_ok]
    have := hes'.2 (β := Value) (fun es => do
      Instr.checkKey es.isEmpty 10000 kt (ren e ix)
      let (v, ok') ← match ← Instr.findKey kt (ren e ix) es.toList with
        | some (_, v) => pure (v, true)
        | none => pure (← zeroValue el, false)
      pure (if ok then .tuple #[v, .bool ok'] else v))
    simp only [Sem.run_bind, key, Result.andThen_ok] at this
    exact this
  rw [hrun]
  simp only [Sem.run_bind, hfind, Result.andThen_ok]
  cases a with
  | none =>
    simp only at h
    cases h
    simp only [Option.map_none, Sem.run_bind, hz1, Result.andThen_ok, Sem.run_pure]
    have hzr : ren e z = z := ren_plain 3 z hz2
    cases ok
    · exact ⟨by simp [hzr], und_plain hz2⟩
    · exact ⟨by simp [hzr], und_tuple fun y hy => by
        simp only [List.mem_toArray, List.mem_cons, List.not_mem_nil, or_false] at hy
        rcases hy with rfl | rfl
        · exact und_plain hz2
        · exact und_bool _⟩
  | some r =>
    obtain ⟨i, u⟩ := r
    simp only at h
    cases h
    have hu := findA_und (n := H.D) ha hes'.1
    simp only [Option.map_some, Sem.run_pure, Result.andThen_ok]
    cases ok
    · exact ⟨by simp, hu⟩
    · exact ⟨by simp, und_tuple fun y hy => by
        simp only [List.mem_toArray, List.mem_cons, List.not_mem_nil, or_false] at hy
        rcases hy with rfl | rfl
        · exact hu
        · exact und_bool _⟩

theorem mapAtA_sound (hZ : TOk Z p) (hR : Rel p e H w) {t : TypeId} {m k : Value} {r cl : Nat} {es : List MapEntry} {el : TypeId} {a : Option (Nat × Value)} (h : mapAtA Z H t m k = some (r, es, cl, el, a)) :
    ∃ kt, p.P.underlying t = some (.map kt el) ∧ m = .map (some r) ∧ p.N0 ≤ r ∧ H.get r = some (.map es cl) ∧ ren e k = k ∧ plain 3 k = true ∧ (∀ em, (Instr.checkKey em 10000 kt (ren e k)).run p.P w = .ok () w) ∧
      (Instr.findKey kt (ren e k) (es.map (renM e))).run p.P w = .ok (a.map fun x => (x.1, ren e x.2)) w ∧ (∀ i v, a = some (i, v) → Und H.D v ∧ ∃ x, es[i]? = some x ∧ (Instr.keyThatStays (((((es.map (renM e)).toArray[i]?).map (·.key)).getD k)) k).run p.P w = .ok k w) := by
  simp only [mapAtA, Option.bind_eq_bind, Option.bind_eq_some_iff] at h
  obtain ⟨d, hd, h⟩ := h
  split at h <;> try (cases h; done)
  rename_i kt el'
  split at h <;> try (cases h; done)
  rename_i hk
  have hk' : keyOkA Z 5 kt k = true ∧ plain 3 k = true := by simpa using hk
  split at h <;> try (cases h; done)
  rename_i r'
  split at h <;> try (cases h; done)
  rename_i hn
  rw [hZ.n0] at hn
  simp only [Option.bind_eq_some_iff] at h
  obtain ⟨o, ho, h⟩ := h
  split at h <;> try (cases h; done)
  rename_i es' cl'
  simp only [Option.bind_eq_some_iff] at h
  obtain ⟨a', ha, h⟩ := h
  have hix : ren e k = k := ren_plain 3 k hk'.2
  have hfind := findA_run (e := e) hZ ha hix w
  have hud := hZ.und _ _ hd
  have hck := fun em => keyOkA_run (e := e) hZ em 5 kt k hk'.1 10000 (by decide) w
  cases a' with
  | none =>
    simp only at h
    cases h
    exact ⟨kt, hud, rfl, by omega, ho, hix, hk'.2, hck, hfind, fun i v hv => by cases hv⟩
  | some x =>
    obtain ⟨i, v⟩ := x
    simp only [Option.bind_eq_some_iff] at h
    obtain ⟨y, hy, h⟩ := h
    split at h <;> try (cases h; done)
    rename_i hb
    cases h
    simp only [Bool.and_eq_true] at hb
    refine ⟨kt, hud, rfl, by omega, ho, hix, hk'.2, hck, hfind, fun i' v' hv => ?_⟩
    cases hv
    refine ⟨findA_und (r := (i, v)) ha fun z hz => ((hR.und _ _ ho) z hz).2, y, hy, ?_⟩
    have : (((es.map (renM e)).toArray[i]?).map (·.key)).getD k = y.key := by
      simp [hy, renM, ren_plain 3 _ hb.1]
    rw [this]
    simp only [Instr.keyThatStays, hb.2, if_true, Sem.run_pure]

theorem append_ren (es : List MapEntry) (x y : MapEntry) (h : renM e x = y) : (es.map (renM e)).toArray.push y = ((es ++ [x]).map (renM e)).toArray := by
  apply Array.ext'
  simp [h]

theorem mapUpdateA_sound (hZ : TOk Z p) (hR : Rel p e H w) {t : TypeId} {m k v : Value} {d : Delta} (h : mapUpdateA Z H t m k v = some d) (huv : Und H.D v) :
    ∃ w', (Instr.mapUpdate t (ren e m) (ren e k) (ren e v)).run p.P w = .ok () w' ∧ Step p e H w e (H.app d) w' := by
  simp only [mapUpdateA, Option.bind_eq_bind, Option.bind_eq_some_iff] at h
  obtain ⟨⟨r, es, cl, el, a⟩, hm, h⟩ := h
  obtain ⟨kt, hud, rfl, hn, ho, hix, hpk, hck, hfind, hkeep⟩ := mapAtA_sound (e := e) hZ hR hm
  have hobj := hR.mapObj ho
  have huo : ∀ x ∈ es, Und H.D x.key ∧ Und H.D x.val := hR.und _ _ ho
  cases a with
  | none =>
    simp only at h
    cases h
    refine ⟨_, ?_, Step.putMap hR ho hn fun x hx => ?_⟩
    rotate_left
    · rcases List.mem_append.1 hx with hx | hx
      · exact huo x hx
      · simp only [List.mem_singleton] at hx; subst hx; exact ⟨und_plain hpk, huv⟩
    · unfold Instr.mapUpdate
      simp only [ren_map, Sem.run_bind, r_und hud, Result.andThen_ok, r_getMap hobj, hck, hfind, Option.map_none, r_setMap _ hobj]
      rw [append_ren es ⟨k, v, cl⟩ _ (by simp [renM])]
  | some x =>
    obtain ⟨i, u⟩ := x
    simp only at h
    cases h
    obtain ⟨hu, y, hy, hst⟩ := hkeep i u rfl
    refine ⟨_, ?_, Step.putMap hR ho hn (modify_und huo fun x hx => ⟨und_plain hpk, huv⟩)⟩
    unfold Instr.mapUpdate
    simp only [ren_map, Sem.run_bind, r_und hud, Result.andThen_ok, r_getMap hobj, hck, hfind, Option.map_some]
    rw [hix, hst]
    simp only [Result.andThen_ok, r_setMap _ hobj]
    rw [modify_ren es i (fun e => { e with key := k, val := v }) _ (fun x => by simp [renM, hix])]

theorem mapEntryA_sound (hZ : TOk Z p) (hR : Rel p e H w) {t : TypeId} {m k v : Value} {d : Delta} (h : mapEntryA Z H t m k = some (v, d)) :
    ∃ w', (Instr.mapEntry t (ren e m) (ren e k)).run p.P w = .ok (ren e v) w' ∧ Step p e H w e (H.app d) w' ∧ Und (H.app d).D v := by
  simp only [mapEntryA, Option.bind_eq_bind, Option.bind_eq_some_iff] at h
  obtain ⟨⟨r, es, cl, el, a⟩, hm, h⟩ := h
  obtain ⟨kt, hud, rfl, hn, ho, hix, hpk, hck, hfind, hkeep⟩ := mapAtA_sound (e := e) hZ hR hm
  have hobj := hR.mapObj ho
  have huo : ∀ x ∈ es, Und H.D x.key ∧ Und H.D x.val := hR.und _ _ ho
  have hpair : ∀ {a : Value} {n : Int} {D : Nat → Prop}, Und D a → Und D (.tuple #[a, goInt n]) := fun ha => und_tuple fun y hy => by
    simp only [List.mem_toArray, List.mem_cons, List.not_mem_nil, or_false] at hy
    rcases hy with rfl | rfl
    · exact ha
    · exact und_int _ _
  cases a with
  | none =>
    simp only [Option.bind_eq_some_iff] at h
    obtain ⟨z, hz, h⟩ := h
    cases h
    obtain ⟨hz1, hz2⟩ := zeroA_run hZ hz
    refine ⟨_, ?_, Step.putMap hR ho hn fun x hx => ?_, hpair (und_plain hz2)⟩
    rotate_left
    · rcases List.mem_append.1 hx with hx | hx
      · exact huo x hx
      · simp only [List.mem_singleton] at hx; subst hx; exact ⟨und_plain hpk, und_plain hz2⟩
    · unfold Instr.mapEntry
      have hzr : ren e z = z := ren_plain 3 z hz2
      simp only [ren_map, Sem.run_bind, r_und hud, Result.andThen_ok, r_getMap hobj, hck, hfind, Option.map_none, hz1, r_setMap _ hobj, Sem.run_pure]
      rw [append_ren es ⟨k, z, cl⟩ _ (by simp [renM, hzr])]
      simp [hzr, goInt]
  | some x =>
    obtain ⟨i, u⟩ := x
    simp only at h
    cases h
    obtain ⟨hu, y, hy, hst⟩ := hkeep i u rfl
    refine ⟨_, ?_, Step.putMap hR ho hn (modify_und huo fun x hx => ⟨und_plain hpk, (huo x hx).2⟩), hpair (hu.mono fun b hb => hb)⟩
    unfold Instr.mapEntry
    simp only [ren_map, Sem.run_bind, r_und hud, Result.andThen_ok, r_getMap hobj, hck, hfind, Option.map_some]
    rw [hix, hst]
    simp only [Result.andThen_ok, r_setMap _ hobj, Sem.run_pure]
    rw [modify_ren es i (fun e => { e with key := k }) _ (fun x => by simp [renM, hix])]
    simp [hy, renM, goInt]

theorem entryStoreA_sound (hZ : TOk Z p) (hR : Rel p e H w) {t : TypeId} {m s v : Value} {d : Delta} (h : entryStoreA Z H m s v = some d) (huv : Und H.D v) :
    ∃ w', (Instr.entryStore t (ren e m) (ren e s) (ren e v)).run p.P w = .ok () w' ∧ Step p e H w e (H.app d) w' := by
  simp only [entryStoreA] at h
  split at h <;> try (cases h; done)
  rename_i r
  split at h <;> try (cases h; done)
  rename_i hn
  rw [hZ.n0] at hn
  simp only [Option.bind_eq_bind, Option.bind_eq_some_iff] at h
  obtain ⟨o, ho, h⟩ := h
  split at h <;> try (cases h; done)
  rename_i es cl
  split at h <;> try (cases h; done)
  rename_i n
  split at h <;> try (cases h; done)
  rename_i i hi
  cases h
  have hobj := hR.mapObj ho
  have huo : ∀ x ∈ es, Und H.D x.key ∧ Und H.D x.val := hR.und _ _ ho
  refine ⟨_, ?_, Step.putMap hR ho (by omega) (modify_und huo fun x hx => ⟨(huo x hx).1, huv⟩)⟩
  unfold Instr.entryStore
  have hfi : (es.map (renM e)).toArray.findIdx? (fun x => (x.born : Int) == n) = some i := by
    rw [← hi, List.findIdx?_toArray, List.findIdx?_map]
    rfl
  simp only [ren_map, ren_int, Sem.run_bind, r_getMap hobj, Result.andThen_ok, asInt, asIntOf, Sem.run_pure, hfi, r_setMap _ hobj]
  rw [modify_ren es i (fun e => { e with val := v }) _ (fun x => by simp [renM])]

theorem eraseIdx_map' (f : MapEntry → MapEntry) : ∀ (l : List MapEntry) (i : Nat), (l.map f).eraseIdx i = (l.eraseIdx i).map f
  | [], _ => rfl
  | x :: l, 0 => rfl
  | x :: l, i + 1 => by simp [List.eraseIdx, eraseIdx_map' f l i]

theorem deleteA_sound (hZ : TOk Z p) (hR : Rel p e H w) {ts : Array TypeId} {ty : TypeId} {t : TypeId} {m k : Value} {d : Delta} (h0 : ts[0]? = some t) (h : deleteA Z H t m k = some d) :
    ∃ w', (Builtin.delete_ ts ty #[ren e m, ren e k]).run p.P w = .ok (.tuple #[]) w' ∧ Step p e H w e (H.app d) w' := by
  simp only [deleteA, Option.bind_eq_bind, Option.bind_eq_some_iff] at h
  obtain ⟨d1, hd, h⟩ := h
  split at h <;> try (cases h; done)
  rename_i kt el
  split at h <;> try (cases h; done)
  rename_i hk
  have hk' : keyOkA Z 5 kt k = true ∧ plain 3 k = true := by simpa using hk
  have hix : ren e k = k := ren_plain 3 k hk'.2
  have hud := hZ.und _ _ hd
  have hck := fun em => keyOkA_run (e := e) hZ em 5 kt k hk'.1 10000 (by decide) w
  split at h
  · cases h
    refine ⟨w, ?_, .refl hR⟩
    simp [Builtin.delete_, h0, r_und hud, hck]
  · rename_i r
    split at h <;> try (cases h; done)
    rename_i hn
    rw [hZ.n0] at hn
    simp only [Option.bind_eq_some_iff] at h
    obtain ⟨o, ho, h⟩ := h
    split at h <;> try (cases h; done)
    rename_i es cl
    simp only [Option.bind_eq_some_iff] at h
    obtain ⟨a, ha, h⟩ := h
    have hobj := hR.mapObj ho
    have huo : ∀ x ∈ es, Und H.D x.key ∧ Und H.D x.val := hR.und _ _ ho
    have hfind := findA_run (e := e) hZ ha hix w
    cases a with
    | none =>
      simp only at h
      cases h
      refine ⟨_, ?_, Step.putMap hR ho (by omega) huo⟩
      simp [Builtin.delete_, h0, r_und hud, hck, r_getMap hobj, hfind, r_setMap _ hobj]
    | some x =>
      obtain ⟨i, u⟩ := x
      simp only at h
      cases h
      refine ⟨_, ?_, Step.putMap hR ho (by omega) (fun x hx => huo x (List.mem_of_mem_eraseIdx hx))⟩
      have he : (es.map (renM e)).toArray.eraseIdxIfInBounds i = ((es.eraseIdx i).map (renM e)).toArray := by
        apply Array.ext'
        simp [eraseIdx_map']
      simp [Builtin.delete_, h0, r_und hud, hck, r_getMap hobj, hfind, r_setMap _ hobj, eraseIdx_map']
  · cases h

theorem clearA_sound (hZ : TOk Z p) (hR : Rel p e H w) {ts : Array TypeId} {ty : TypeId} {t : TypeId} {x : Value} {d : Delta} (h0 : ts[0]? = some t) (h : clearA Z H t x = some d) :
    ∃ w', (Builtin.clear_ ts ty #[ren e x]).run p.P w = .ok (.tuple #[]) w' ∧ Step p e H w e (H.app d) w' := by
  simp only [clearA, Option.bind_eq_bind, Option.bind_eq_some_iff] at h
  obtain ⟨d1, hd, h⟩ := h
  split at h <;> try (cases h; done)
  rename_i el
  have hud := hZ.und _ _ hd
  split at h
  · rename_i a c
    cases h
    refine ⟨w, ?_, .refl hR⟩
    cases a <;> simp [Builtin.clear_, h0, r_und hud]
  · rename_i a n c hn0
    simp only [Option.bind_eq_some_iff] at h
    obtain ⟨z, hz, h⟩ := h
    obtain ⟨hz1, hz2⟩ := zeroA_run hZ hz
    obtain ⟨w', hrun, hstep, _⟩ := storeCellsA_sound hZ hR h (fun v hv => by
      exact und_plain_cells hz2 v (zerosA_mem _ _ _ hv))
    refine ⟨w', ?_, hstep⟩
    have hzc : (Builtin.zeroCells z.cells n).toList = (zerosA z.cells.toList n).map (ren e) := by
      have h2 : z.cells.toList.map (ren e) = z.cells.toList.map id := by rw [plain_cells hz2, List.map_id]
      have hm : (zerosA z.cells.toList n).map (ren e) = zerosA z.cells.toList n := by
        conv => rhs; rw [← List.map_id (zerosA z.cells.toList n)]
        exact List.map_congr_left fun x hx => List.map_inj_left.1 h2 x (zerosA_mem _ _ _ hx)
      rw [hm, Builtin.zeroCells, zeros_eq z.cells n z.cells.size rfl]
    cases n with
    | zero => exact (hn0 rfl).elim
    | succ n =>
      simp only [Builtin.clear_, h0, ren_slice, Sem.run_bind, r_und hud, Result.andThen_ok, List.getElem?_toArray, List.getElem?_cons_zero, hz1, hzc, hrun, Sem.run_pure]
  · cases h

theorem missing_none {want : Array (String × TypeId)} {got : Array Method} (h : missesA want got = false) : Instr.missingMethod want got = none := by
  unfold missesA at h
  unfold Instr.missingMethod
  have : (want.toList.filter fun (x : String × TypeId) => match x with | (name, sig) => !got.any fun m => m.name == name && m.sig == sig) = [] := by
    rw [List.filter_eq_nil_iff]
    intro x hx
    have := (List.any_eq_false.1 h) x hx
    simpa using this
  simp only [this, List.map_nil]
  rfl
theorem missing_some {want : Array (String × TypeId)} {got : Array Method} (h : missesA want got = true) : ∃ m, Instr.missingMethod want got = some m := by
  unfold missesA at h
  unfold Instr.missingMethod
  obtain ⟨x, hx, hx2⟩ := List.any_eq_true.1 h
  have hne : (want.toList.filter fun (x : String × TypeId) => match x with | (name, sig) => !got.any fun m => m.name == name && m.sig == sig) ≠ [] := by
    intro hnil
    have := (List.filter_eq_nil_iff.1 hnil) x hx
    exact this hx2
  generalize (want.toList.filter fun (x : String × TypeId) => match x with | (name, sig) => !got.any fun m => m.name == name && m.sig == sig) = l at hne
  cases l with
  | nil => exact absurd rfl hne
  | cons y l =>
    simp only [List.map_cons, List.partition_eq_filter_filter]
    by_cases hc : y.1.contains '.' = true
    · cases hq : Instr.least (List.filter (not ∘ fun x => x.contains '.') (y.1 :: l.map (·.1))) with
      | some q => exact ⟨q, by simp [hq]⟩
      | none =>
        simp only [List.filter_cons, hc, if_true, List.map_cons, Instr.least]
        exact ⟨_, by
          simp only [List.filter_cons, Function.comp, hc, Bool.not_true, Bool.false_eq_true, if_false] at hq
          simp [Function.comp, hc, hq]; rfl⟩
    · exact ⟨_, by
        simp only [List.filter_cons, Function.comp, hc, Bool.not_false, if_true, Instr.least]
        rfl⟩

theorem typeAssertA_sound (hZ : TOk Z p) {x v : Value} {xt t : TypeId} {ok : Bool} {n : Nat → Prop} (h : typeAssertA Z x t ok = some v) (hu : Und n x) :
    (Instr.typeAssert (ren e x) xt t ok).run p.P w = .ok (ren e v) w ∧ Und n v := by
  simp only [typeAssertA, Option.bind_eq_bind, Option.bind_eq_some_iff] at h
  obtain ⟨z, hz, d, hd, h⟩ := h
  obtain ⟨hz1, hz2⟩ := zeroA_run hZ hz
  have hud := hZ.und _ _ hd
  have hzr : ren e z = z := ren_plain 3 z hz2
  have pairU : ∀ {a : Value} {b : Bool}, Und n a → Und n (.tuple #[a, .bool b]) := fun ha => und_tuple fun y hy => by
    simp only [List.mem_toArray, List.mem_cons, List.not_mem_nil, or_false] at hy
    rcases hy with rfl | rfl
    · exact ha
    · exact und_bool _
  split at h
  · rename_i want t' v'
    simp only [Option.bind_eq_some_iff] at h
    obtain ⟨i, hi, h⟩ := h
    split at h
    · rename_i hm
      split at h <;> try (cases h; done)
      rename_i hok
      cases h
      obtain ⟨q, hq⟩ := missing_some hm
      exact ⟨by simp [Instr.typeAssert, r_und hud, r_info (hZ.info _ _ hi), hq, hok, hz1, hzr], pairU (und_plain hz2)⟩
    · rename_i hm
      have hq := missing_none (by simpa using hm)
      cases h
      cases ok
      · exact ⟨by simp [Instr.typeAssert, r_und hud, r_info (hZ.info _ _ hi), hq], hu⟩
      · exact ⟨by simp [Instr.typeAssert, r_und hud, r_info (hZ.info _ _ hi), hq], pairU hu⟩
  · split at h <;> try (cases h; done)
    rename_i hok
    cases h
    refine ⟨?_, pairU (und_plain hz2)⟩
    unfold Instr.typeAssert
    simp only [ren_nilIface, Sem.run_bind, r_und hud, Result.andThen_ok]
    cases d <;> simp [hok, hz1, hzr]
  · rename_i t' v' hni
    have hb : (Instr.typeAssert (.iface t' (ren e v')) xt t ok).run p.P w = (if t' = t then pure (if ok then .tuple #[ren e v', .bool true] else ren e v') else (do
        if ok then pure (.tuple #[← zeroValue t, .bool false]) else runtimePanic (.typeAssertion (some xt) (some t') t "") : Sem Value) : Sem Value).run p.P w := by
      unfold Instr.typeAssert
      simp only [Sem.run_bind, r_und hud, Result.andThen_ok]
    split at h
    · rename_i htt
      cases h
      rw [ren_iface, hb, if_pos htt]
      cases ok
      · exact ⟨by simp, und_iface_inv hu⟩
      · exact ⟨by simp, pairU (und_iface_inv hu)⟩
    · rename_i htt
      split at h <;> try (cases h; done)
      rename_i hok
      cases h
      rw [ren_iface, hb, if_neg htt]
      exact ⟨by simp [hok, hz1, hzr], pairU (und_plain hz2)⟩
  · cases h
end Go.Eng

namespace Go.Eng
variable [Shift]
variable {p : Par} {e e' : Env} {H H' : Heap} {w w' : World} {Z : Tab}

theorem callFuncA_sound (hZ : TOk Z p) (hR : Rel p e H w) {f : FuncId} {args : List Value} {o : Out} (h : callFuncA Z H f args = some o) (hu : ∀ a ∈ args, Und H.D a) :
    OutRel Z p e H w (callFunc f (args.map (ren e)).toArray) o := by
  simp only [callFuncA] at h
  split at h
  · rename_i fn hf
    cases h
    obtain ⟨h1, ⟨c, hb, _⟩, h3⟩ := hZ.fn f fn hf
    refine ⟨?_, hu, by rw [hf]; rfl⟩
    simp only [callFunc, Sem.run_bind, run_program, Result.andThen_ok, h1]
    rw [if_neg (by rw [h3]; simp), if_neg (by simp [hb])]
    rfl
  · split at h <;> try (cases h; done)
    · rename_i s c hx
      cases h
      refine OutRel.same hR ?_ ?_
      · simp only [List.map_cons, List.map_nil, ren_string, ren_int]
        rw [hZ.idx f hx]
        generalize List.find? _ _ = q
        cases q <;> simp [goInt]
      · split <;> exact und_int _ _
    · rename_i a b hx
      cases h
      refine OutRel.same hR ?_ (und_int _ _)
      simp only [List.map_cons, List.map_nil, ren_string]
      rw [hZ.cmp f hx]
      simp [goInt]


def renP (e : Env) : Place → Place
  | .val v => .val (ren e v)
  | .var a => .var (e.addr a)
def PUnd (n : Nat → Prop) : Place → Prop
  | .val v => Und n v
  | .var a => Und n (.pointer (some a))
theorem placeGetA_sound (hZ : TOk Z p) (hR : Rel p e H w) {t : TypeId} {x : Place} {v : Value} (h : placeGetA Z H t x = some v) (hu : PUnd H.D x) : ((renP e x).get t).run p.P w = .ok (ren e v) w ∧ Und H.D v := by
  cases x with
  | val v' => cases h; exact ⟨rfl, hu⟩
  | var a => exact loadV_sound hZ hR h
theorem r_fieldPlace {P : Program} {a : Addr} {f : Field} {i : TypeInfo} (hi : P.info? f.type = some i) (hs : ¬ i.size = 0) (w : World) : (fieldPlace a f).run P w = .ok (a.add f.offset) w := by
  simp [fieldPlace, r_size hi, hs]
theorem followA_sound (hZ : TOk Z p) (hR : Rel p e H w) : ∀ (l : List FieldStep) (t : TypeId) (x : Place) (t' : TypeId) (x' : Place), followA Z H l t x = some (t', x') → PUnd H.D x →
    (follow l t (renP e x)).run p.P w = .ok (t', renP e x') w ∧ PUnd H.D x'
  | [], t, x, t', x', h, hu => by simp only [followA, Option.some.injEq, Prod.mk.injEq] at h; obtain ⟨rfl, rfl⟩ := h; exact ⟨rfl, hu⟩
  | s :: rest, t, x, t', x', h, hu => by
    simp only [followA, Option.bind_eq_bind, Option.bind_eq_some_iff] at h
    obtain ⟨d, hd, h⟩ := h
    split at h <;> try (cases h; done)
    rename_i fields
    simp only [Option.bind_eq_some_iff] at h
    obtain ⟨f, hf, i, hi, h⟩ := h
    have hud := hZ.und _ _ hd
    have hinfo := hZ.info _ _ hi
    split at h
    · rename_i hder
      simp only [Option.bind_eq_some_iff] at h
      obtain ⟨v, hv, h⟩ := h
      split at h <;> try (cases h; done)
      rename_i a
      split at h <;> try (cases h; done)
      rename_i hsz
      obtain ⟨hr, hu1⟩ := placeGetA_sound hZ hR hv hu
      obtain ⟨h1, h2⟩ := followA_sound hZ hR rest _ _ t' x' h (und_ptr_add (k := f.offset) hu1)
      refine ⟨?_, h2⟩
      simp only [follow, Sem.run_bind, r_und hud, Result.andThen_ok, hf, hder, if_true, hr, ren_ptr, asAddr, Sem.run_pure, r_fieldPlace hinfo hsz]
      simp only [renP, ← addr_add] at h1
      exact h1
    · rename_i hder
      have hder' : s.deref = false := by simpa using hder
      split at h
      · rename_i a
        split at h <;> try (cases h; done)
        rename_i hsz
        obtain ⟨h1, h2⟩ := followA_sound hZ hR rest _ _ t' x' h (und_ptr_add (k := f.offset) hu)
        refine ⟨?_, h2⟩
        simp only [follow, Sem.run_bind, r_und hud, Result.andThen_ok, hf, hder', Bool.false_eq_true, if_false, renP, r_fieldPlace hinfo hsz]
        simp only [renP, ← addr_add] at h1
        exact h1
      · rename_i cs
        simp only [Option.bind_eq_some_iff] at h
        obtain ⟨v, hv, h⟩ := h
        obtain ⟨hr, hu1⟩ := partA_sound (e := e) (w := w) hZ hv (und_agg_inv hu)
        obtain ⟨h1, h2⟩ := followA_sound hZ hR rest _ _ t' x' h hu1
        refine ⟨?_, h2⟩
        simp only [follow, Sem.run_bind, r_und hud, Result.andThen_ok, hf, hder', Bool.false_eq_true, if_false, renP, ren_agg, hr]
        exact h1
      · cases h
theorem wrapNilChk_some (xt : TypeId) (a : Addr) (nm : String) : Builtin.ssaWrapNilChk_ #[xt] xt #[.pointer (some a), strVal "", strVal nm] = pure (.pointer (some a)) := rfl
theorem receiverA_sound (hZ : TOk Z p) (hR : Rel p e H w) {xt : TypeId} {x : Place} {ptr : Bool} {v : Value} (h : receiverA Z H xt x ptr = some v) (hu : PUnd H.D x) (wr : Option String) :
    (receiverAt xt (renP e x) ptr wr).run p.P w = .ok (ren e v) w ∧ Und H.D v := by
  simp only [receiverA, Option.bind_eq_bind, Option.bind_eq_some_iff] at h
  obtain ⟨d, hd, h⟩ := h
  have hud := hZ.und _ _ hd
  split at h
  · obtain ⟨hr, hu1⟩ := placeGetA_sound hZ hR h hu
    refine ⟨?_, hu1⟩
    simp only [receiverAt, Sem.run_bind, r_und hud, Result.andThen_ok, hr]
  · simp only [Option.bind_eq_some_iff] at h
    obtain ⟨v1, hv1, h⟩ := h
    split at h <;> try (cases h; done)
    rename_i a
    obtain ⟨hr, hu1⟩ := placeGetA_sound hZ hR hv1 hu
    obtain ⟨hl, hu2⟩ := loadV_sound hZ hR h
    refine ⟨?_, hu2⟩
    simp only [receiverAt, Sem.run_bind, r_und hud, Result.andThen_ok, hr, ren_ptr]
    cases wr with
    | none => simp only [Sem.run_bind, Sem.run_pure, Result.andThen_ok, asAddr, hl]
    | some nm => simp only [wrapNilChk_some, Sem.run_bind, Sem.run_pure, Result.andThen_ok, asAddr, hl]
  · rename_i hnp a
    cases h
    refine ⟨?_, hu⟩
    simp only [receiverAt, Sem.run_bind, r_und hud, Result.andThen_ok, renP]
    cases d <;> first | (simp; done) | exact (hnp _ rfl).elim
  · cases h
  · rename_i hnp
    obtain ⟨hr, hu1⟩ := placeGetA_sound hZ hR h hu
    refine ⟨?_, hu1⟩
    simp only [receiverAt, Sem.run_bind, r_und hud, Result.andThen_ok]
    cases d <;> first | (simp [hr]; done) | exact (hnp _ rfl).elim
theorem methodA_sound (hZ : TOk Z p) (hR : Rel p e H w) {name : String} : ∀ (n : Nat) (t : TypeId) (v : Value) (f : FuncId) (r : Value), methodA Z H n t v name = some (f, r) → Und H.D v → ∀ m, n ≤ m →
    (method m t (ren e v) name).run p.P w = .ok (f, ren e r) w ∧ Und H.D r
  | 0, t, v, f, r, h, _, m, _ => by simp [methodA] at h
  | n + 1, t, v, f, r, h, hu, m, hm => by
    obtain ⟨m, rfl⟩ : ∃ m', m = m' + 1 := ⟨m - 1, by omega⟩
    simp only [methodA, Option.bind_eq_bind, Option.bind_eq_some_iff] at h
    obtain ⟨i, hi, q, hq, ⟨xt, x⟩, hf, h⟩ := h
    obtain ⟨h1, h2⟩ := followA_sound (e := e) hZ hR _ _ _ _ _ hf hu
    have h1 : (follow q.path.toList t (.val (ren e v))).run p.P w = .ok (xt, renP e x) w := h1
    split at h
    · rename_i hfn
      simp only [Option.bind_eq_some_iff] at h
      obtain ⟨v1, hv1, h⟩ := h
      split at h <;> try (cases h; done)
      rename_i t' v'
      obtain ⟨hr, hu1⟩ := placeGetA_sound hZ hR hv1 h2
      obtain ⟨h3, h4⟩ := methodA_sound hZ hR n t' v' f r h (und_iface_inv hu1) m (by omega)
      refine ⟨?_, h4⟩
      simp only [method, Sem.run_bind, r_info (hZ.info _ _ hi), Result.andThen_ok, hq, h1, hfn, hr, ren_iface, h3]
    · rename_i g ptr hfn
      simp only [Option.map_eq_some_iff] at h
      obtain ⟨r', hr', h⟩ := h
      cases h
      obtain ⟨h3, h4⟩ := receiverA_sound hZ hR hr' h2 (if q.path.isEmpty = true then some ((name.splitOn ".").getLastD name) else none)
      refine ⟨?_, h4⟩
      simp only [method, Sem.run_bind, r_info (hZ.info _ _ hi), Result.andThen_ok, hq, h1, hfn, h3, Sem.run_pure]

theorem callMethodA_sound (hZ : TOk Z p) (hR : Rel p e H w) {recv : Value} {name : String} {args : List Value} {o : Out} (h : callMethodA Z H recv name args = some o) (hr : Und H.D recv) (hu : ∀ a ∈ args, Und H.D a) :
    OutRel Z p e H w (callMethod (ren e recv) name (args.map (ren e)).toArray) o := by
  simp only [callMethodA] at h
  split at h <;> try (cases h; done)
  rename_i t v
  simp only [Option.bind_eq_bind, Option.bind_eq_some_iff] at h
  obtain ⟨⟨f, r⟩, hm, h⟩ := h
  obtain ⟨hmeth, hur⟩ := methodA_sound (e := e) hZ hR 9 t v f r hm (und_iface_inv hr) (p.P.types.size + Made.depth) (by show 9 ≤ p.P.types.size + 100; omega)
  have hcall := callFuncA_sound hZ hR h (by intro a ha; rcases List.mem_cons.1 ha with rfl | ha; exact hur; exact hu a ha)
  refine hcall.of_run ?_
  simp only [ren_iface, callMethod, Sem.run_bind, run_program, Result.andThen_ok, hmeth]
  simp

theorem renFn_func (f : FuncId) : renFn e (.func f) = .func f := rfl

theorem builtinA_sound (hZ : TOk Z p) (hR : Rel p e H w) (hs : H.next + 2 < 2 ^ 40) {b : Builtin} {ts : Array TypeId} {ty : TypeId} {cs : Array Bool} {args : List Value} {o : Out} (h : builtinA Z H b ts args = some o)
    (hu : ∀ a ∈ args, Und H.D a) : OutRel Z p e H w (builtin b ts ty cs (args.map (ren e)).toArray) o := by
  simp only [builtinA] at h
  split at h
  · rename_i x
    simp only [Option.bind_eq_bind, Option.bind_eq_some_iff] at h
    obtain ⟨t, ht, d, hd, h⟩ := h
    have hud := hZ.und _ _ hd
    split at h <;> try (cases h; done)
    · cases h
      refine OutRel.same hR ?_ (und_int _ _)
      simp [builtin, Builtin.len_, ht, r_und hud, goInt]
    · rename_i el a n c
      cases h
      refine OutRel.same hR ?_ (und_int _ _)
      cases a <;> simp [builtin, Builtin.len_, ht, r_und hud, goInt]
    · cases h
      refine OutRel.same hR ?_ (und_int _ _)
      simp [builtin, Builtin.len_, ht, r_und hud, goInt]
    · cases h
      refine OutRel.same hR ?_ (und_int _ _)
      simp [builtin, Builtin.len_, ht, r_und hud, goInt]
    · rename_i r
      simp only [Option.bind_eq_some_iff] at h
      obtain ⟨o', ho, h⟩ := h
      split at h <;> try (cases h; done)
      rename_i es cl
      cases h
      refine OutRel.same hR ?_ (und_int _ _)
      simp [builtin, Builtin.len_, ht, r_und hud, goInt, r_getMap (hR.mapObj ho)]
  · rename_i m k
    simp only [Option.bind_eq_bind, Option.bind_eq_some_iff, Option.map_eq_some_iff] at h
    obtain ⟨t, ht, d, hd, rfl⟩ := h
    obtain ⟨w', hrun, hstep⟩ := deleteA_sound (ty := ty) hZ hR ht hd
    exact ⟨e, w', .inl (by simp [builtin, hrun]), hstep, und_tuple (by simp)⟩
  · rename_i x
    simp only [Option.bind_eq_bind, Option.bind_eq_some_iff, Option.map_eq_some_iff] at h
    obtain ⟨t, ht, d, hd, rfl⟩ := h
    obtain ⟨w', hrun, hstep⟩ := clearA_sound (ty := ty) hZ hR ht hd
    exact ⟨e, w', .inl (by simp [builtin, hrun]), hstep, und_tuple (by simp)⟩
  · rename_i s x
    simp only [Option.map_eq_some_iff] at h
    obtain ⟨⟨v, d⟩, hr, rfl⟩ := h
    obtain ⟨e', w', hrun, hstep, hv⟩ := appendA_sound (ty := ty) hZ hR hs hr (hu s (by simp)) (hu x (by simp))
    exact ⟨e', w', .inl (by simp [builtin, hrun]), hstep, hv⟩
  · rename_i s x
    simp only [Option.map_eq_some_iff] at h
    obtain ⟨⟨v, d⟩, hr, rfl⟩ := h
    obtain ⟨w', hrun, hstep, hv⟩ := copyA_sound (ty := ty) hZ hR hr (hu x (by simp))
    exact ⟨e, w', .inl (by simp [builtin, hrun]), hstep, hv⟩
  · cases h
    refine OutRel.same hR ?_ (und_int _ _)
    simp [builtin, Builtin.min_, Builtin.min2]
  · cases h
    refine OutRel.same hR ?_ (und_int _ _)
    simp [builtin, Builtin.max_, Builtin.max2]
  · cases h
    simp [OutRel, builtin]
  · rename_i a n
    simp only [Option.map_eq_some_iff] at h
    obtain ⟨⟨v, d⟩, hr, rfl⟩ := h
    obtain ⟨w', hrun, hstep, hv⟩ := unsafeStrA_sound (ty := ty) hZ hR hr
    exact ⟨e, w', .inl (by simp [builtin, hrun]), hstep, hv⟩
  · cases h

/-- What a target must be, to be followed. -/
def TUnd' (n : Nat → Prop) (t : Target) : Prop := ∀ e e', Agree n e e' → renT e t = renT e' t

theorem invokeA_sound (hZ : TOk Z p) (hR : Rel p e H w) (hs : H.next + 2 < 2 ^ 40) {t : Target} {args : List Value} {o : Out} (h : invokeA Z H t args = some o) (ht : ∀ f c, t = .fn f c → ∀ v ∈ c, Und H.D v)
    (hu : ∀ a ∈ args, Und H.D a) : OutRel Z p e H w (invoke (renT e t) (args.map (ren e)).toArray) o := by
  simp only [invokeA] at h
  split at h
  · exact builtinA_sound hZ hR hs h hu
  · rename_i f cap
    have := callFuncA_sound hZ hR h (by
      intro a ha
      rcases List.mem_append.1 ha with ha | ha
      · exact hu a ha
      · exact ht _ _ rfl a (by simpa using ha))
    refine this.of_run ?_
    simp only [renT, renFn_func, invoke]
    congr 2
    apply Array.ext'
    simp
  · split at h <;> try (cases h; done)
    rename_i r rest
    have := callMethodA_sound hZ hR h (hu r (by simp)) (fun a ha => hu a (by simp [ha]))
    refine this.of_run ?_
    have htk : (rest.map (ren e)).take rest.length = rest.map (ren e) := List.take_of_length_le (by simp)
    simp [renT, renFn, invoke, htk]
  · split at h <;> try (cases h; done)
    rename_i t name _ r rest
    simp only [Option.bind_eq_bind, Option.bind_eq_some_iff] at h
    obtain ⟨d, hd, h⟩ := h
    have hud := hZ.und _ _ hd
    have htk : (rest.map (ren e)).take rest.length = rest.map (ren e) := List.take_of_length_le (by simp)
    split at h
    · have := callMethodA_sound hZ hR h (hu r (by simp)) (fun a ha => hu a (by simp [ha]))
      refine this.of_run ?_
      simp [renT, renFn, invoke, r_und hud, htk]
    · rename_i hni
      have := callMethodA_sound hZ hR h (und_iface (hu r (by simp))) (fun a ha => hu a (by simp [ha]))
      refine this.of_run ?_
      simp only [renT, renFn, invoke, List.map_cons, List.getElem?_toArray, List.getElem?_cons_zero, Sem.run_bind, r_und hud, Result.andThen_ok]
      cases d <;> first | exact (hni _ rfl).elim | skip
      all_goals simp [htk]
  · split at h <;> try (cases h; done)
    rename_i t path f ptr _ _ x rest
    simp only [Option.bind_eq_bind, Option.bind_eq_some_iff] at h
    obtain ⟨⟨xt, pl⟩, hf, r, hr, h⟩ := h
    obtain ⟨h1, h2⟩ := followA_sound (e := e) hZ hR _ _ _ _ _ hf (hu x (by simp))
    obtain ⟨h3, h4⟩ := receiverA_sound hZ hR hr h2 none
    have hcall := callFuncA_sound hZ hR h (by intro a ha; rcases List.mem_cons.1 ha with rfl | ha; exact h4; exact hu a (by simp [ha]))
    refine hcall.of_run ?_
    have htk : (rest.map (ren e)).take rest.length = rest.map (ren e) := List.take_of_length_le (by simp)
    have h1 : (follow path.toList t (.val (ren e x))).run p.P w = .ok (xt, renP e pl) w := h1
    simp [renT, renFn, invoke, receiverVia, h1, h3, htk]
  · rename_i l _
    cases h
    refine ⟨?_, hu⟩
    simp [renT, renFn, invoke]
  · cases h
end Go.Eng
end
