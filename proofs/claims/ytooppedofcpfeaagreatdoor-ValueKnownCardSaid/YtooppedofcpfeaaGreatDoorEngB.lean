/- What a followed state says of a real one: places are renamed; rows may really be longer. -/
import Derived.Test.YtooppedofcpfeaaGreatDoorEngA
import Derived.Laws.Sem
import Derived.Laws.World
import Derived.Laws.Cells
import Derived.Below
set_option linter.all false
namespace Go.Eng

namespace Tr
variable {α : Type}
theorem setK_eq (f : Nat) : ∀ {β : Type} (t : Tr α) (k : Nat) (x : Option α) (c : Tr α → β), setK f t k x c = c (setK f t k x id) := by
  induction f with
  | zero => intro β t k x c; rfl
  | succ f ih =>
    intro β t k x c
    simp only [setK]
    cases Nat.beq k 0
    · cases Nat.beq (k % 2) 1
      · exact (ih _ _ _ _).trans (congrArg c (ih t.rgt (k / 2 - 1) x (fun r => id (Tr.n t.val t.lft r))).symm)
      · exact (ih _ _ _ _).trans (congrArg c (ih t.lft (k / 2) x (fun l => id (Tr.n t.val l t.rgt))).symm)
    · rfl
theorem get_n (v : Option α) (l r : Tr α) (k : Nat) :
    (Tr.n v l r).get k = if k = 0 then v else if k % 2 = 1 then l.get (k / 2) else r.get (k / 2 - 1) := by
  simp only [get]
  by_cases h : k = 0
  · subst h; rfl
  · have h1 : Nat.beq k 0 = false := by cases hb : Nat.beq k 0 with
      | false => rfl
      | true => exact absurd (Nat.eq_of_beq_eq_true hb) h
    rw [h1, if_neg h]
    simp only [cond]
    by_cases h2 : k % 2 = 1
    · rw [h2, if_pos rfl]
    · have h3 : Nat.beq (k % 2) 1 = false := by cases hb : Nat.beq (k % 2) 1 with
        | false => rfl
        | true => exact absurd (Nat.eq_of_beq_eq_true hb) h2
      rw [h3, if_neg h2]
theorem get_parts (t : Tr α) (k : Nat) : t.get k = if k = 0 then t.val else if k % 2 = 1 then t.lft.get (k / 2) else t.rgt.get (k / 2 - 1) := by
  cases t with
  | e => simp [get, val, lft, rgt]
  | n v l r => exact get_n v l r k
theorem get_setK (f : Nat) : ∀ (t : Tr α) (k : Nat) (x : Option α) (j : Nat), k + 1 < 2 ^ f → (setK f t k x id).get j = if j = k then x else t.get j := by
  induction f with
  | zero => intro t k x j h; simp at h
  | succ f ih =>
    intro t k x j h
    have hp : 2 ^ (f + 1) = 2 * 2 ^ f := by rw [Nat.pow_succ]; omega
    simp only [setK]
    by_cases h0 : k = 0
    · subst h0
      simp only [Nat.beq, cond, id, get_n]
      by_cases hj : j = 0
      · subst hj; simp
      · simp [hj, get_parts t j]
    · have h1 : Nat.beq k 0 = false := by cases hb : Nat.beq k 0 with
        | false => rfl
        | true => exact absurd (Nat.eq_of_beq_eq_true hb) h0
      rw [h1]; simp only [cond]
      by_cases h2 : k % 2 = 1
      · rw [h2, show Nat.beq 1 1 = true from rfl]; simp only [cond]
        rw [setK_eq]; simp only [id, get_n]
        rw [ih _ _ _ _ (by omega), get_parts t j]
        by_cases hj : j = 0
        · subst hj; rw [if_pos rfl, if_neg (by omega), if_pos rfl]
        · simp only [hj, if_false]
          by_cases hj2 : j % 2 = 1
          · simp only [hj2, if_true]
            by_cases hjk : j = k
            · subst hjk; simp
            · rw [if_neg hjk, if_neg (by omega)]
          · simp only [hj2, if_false]; rw [if_neg (by omega)]
      · have h3 : Nat.beq (k % 2) 1 = false := by cases hb : Nat.beq (k % 2) 1 with
          | false => rfl
          | true => exact absurd (Nat.eq_of_beq_eq_true hb) h2
        rw [h3]; simp only [cond]
        rw [setK_eq]; simp only [id, get_n]
        rw [ih _ _ _ _ (by omega), get_parts t j]
        by_cases hj : j = 0
        · subst hj; rw [if_pos rfl, if_neg (by omega), if_pos rfl]
        · simp only [hj, if_false]
          by_cases hj2 : j % 2 = 1
          · simp only [hj2, if_true]; rw [if_neg (by omega)]
          · simp only [hj2, if_false]
            by_cases hjk : j = k
            · subst hjk; simp
            · rw [if_neg hjk, if_neg (by omega)]
theorem get_set (t : Tr α) (k : Nat) (x : Option α) (j : Nat) (h : k + 1 < 2 ^ 40) : (t.set k x).get j = if j = k then x else t.get j := get_setK 40 t k x j h
end Tr

theorem forceNat_eq {β : Type} (n : Nat) (k : Nat → β) : forceNat n k = k n := by cases n <;> rfl
theorem forceInt_eq {β : Type} (n : Int) (k : Int → β) : forceInt n k = k n := by cases n <;> simp [forceInt, forceNat_eq]
theorem forceAddr_eq {β : Type} (a : Addr) (k : Addr → β) : forceAddr a k = k a := by simp [forceAddr, forceNat_eq]
theorem forceList_eq {α β : Type} (f : α → (α → β) → β) (hf : ∀ x k, f x k = k x) : ∀ (n : Nat) (l : List α) (k : List α → β), forceList f n l k = k l := by
  intro n
  induction n with
  | zero => intro l k; rfl
  | succ n ih => intro l k; cases l with
    | nil => rfl
    | cons x l => simp [forceList, hf, ih]
theorem forceV_eq {β : Type} : ∀ (n : Nat) (v : Value) (k : Value → β), forceV n v k = k v := by
  intro n
  induction n with
  | zero => intro v k; rfl
  | succ n ih =>
    intro v k
    unfold forceV
    split
    · rename_i b; cases b <;> rfl
    · rw [forceInt_eq]
    · rw [forceAddr_eq]
    · rw [forceAddr_eq, forceNat_eq, forceNat_eq]
    · rw [forceNat_eq, forceNat_eq]
    · rw [forceList_eq _ (fun _ _ => rfl)]
    · rw [ih]
    · rw [forceList_eq _ ih]
    · rw [forceList_eq _ ih]
    · rw [forceList_eq _ ih, forceList_eq _ ih]
    · rfl
theorem forceObj_eq {β : Type} (o : AObj) (k : AObj → β) : forceObj o k = k o := by
  cases o with
  | cells c el fz g => simp only [forceObj]; rw [forceList_eq _ (forceV_eq 4)]
  | loop => rfl
  | deferred => rfl
theorem putK_eq {β : Type} (T : Tr Value) (d : Option Tmp) (v : Value) (k : Tr Value → β) : putK T d v k = k (putA T d v) := by
  cases d with
  | none => rfl
  | some d => simp only [putK, putA]; rw [forceV_eq, Tr.setK_eq]; rfl
theorem Heap.setK_eq {β : Type} (h : Heap) (b : Nat) (o : Option AObj) (k : Heap → β) : h.setK b o k = k (h.set b o) := by
  simp only [Heap.setK]; rw [Tr.setK_eq]; rfl
theorem Heap.newK_eq {β : Type} (h : Heap) (o : AObj) (k : Heap → β) : h.newK o k = k (h.new o) := by
  simp only [Heap.newK]; rw [forceObj_eq, Tr.setK_eq, forceNat_eq]; rfl
theorem Heap.appK_eq {β : Type} (h : Heap) (d : Delta) (k : Heap → β) : h.appK d k = k (h.app d) := by
  cases d with
  | same => rfl
  | new o => exact Heap.newK_eq h o k
  | set b o => simp only [Heap.appK, Heap.app]; rw [forceObj_eq, Heap.setK_eq]
  | grow b o => simp only [Heap.appK, Heap.app]; rw [Heap.setK_eq, Heap.newK_eq]

/-! ### Renaming -/
structure Env where
  ρ : Nat → Nat
  σ : Nat → Nat

/-- How far into its block a place lies that is only handed about (a sentinel's). -/
class Shift where
  δ : Nat → Nat
variable [Shift]
def Env.addr (e : Env) (a : Addr) : Addr := { a with block := e.ρ a.block, off := a.off + Shift.δ a.block }
def renFn (e : Env) : Fn → Fn
  | .yield l => .yield (e.ρ l)
  | f => f
def ren (e : Env) : Value → Value
  | .pointer (some a) => .pointer (some (e.addr a))
  | .slice (some a) l c => .slice (some (e.addr a)) l (c + e.σ a.block)
  | .map (some r) => .map (some (e.ρ r))
  | .chan (some r) => .chan (some (e.ρ r))
  | .func fn a b => .func (renFn e fn) (a.map (ren e)) (b.map (ren e))
  | .iface t v => .iface t (ren e v)
  | .agg cs => .agg (cs.map (ren e))
  | .tuple cs => .tuple (cs.map (ren e))
  | v => v

variable {e e' : Env}
@[simp] theorem ren_bool (b : Bool) : ren e (.bool b) = .bool b := by simp [ren]
@[simp] theorem ren_int (k : IntKind) (n : Int) : ren e (.int k n) = .int k n := by simp [ren]
@[simp] theorem ren_string (s : ByteArray) : ren e (.string s) = .string s := by simp [ren]
@[simp] theorem ren_float (k : FloatKind) (n : Nat) : ren e (.float k n) = .float k n := by simp [ren]
@[simp] theorem ren_complex (k : FloatKind) (n m : Nat) : ren e (.complex k n m) = .complex k n m := by simp [ren]
@[simp] theorem ren_ptr (a : Addr) : ren e (.pointer (some a)) = .pointer (some (e.addr a)) := by simp [ren]
@[simp] theorem ren_nilptr : ren e (.pointer none) = .pointer none := by simp [ren]
@[simp] theorem ren_slice (a : Addr) (l c : Nat) : ren e (.slice (some a) l c) = .slice (some (e.addr a)) l (c + e.σ a.block) := by simp [ren]
@[simp] theorem ren_nilslice (l c : Nat) : ren e (.slice none l c) = .slice none l c := by simp [ren]
@[simp] theorem ren_map (r : Nat) : ren e (.map (some r)) = .map (some (e.ρ r)) := by simp [ren]
@[simp] theorem ren_nilmap : ren e (.map none) = .map none := by simp [ren]
@[simp] theorem ren_chan (r : Nat) : ren e (.chan (some r)) = .chan (some (e.ρ r)) := by simp [ren]
@[simp] theorem ren_nilchan : ren e (.chan none) = .chan none := by simp [ren]
@[simp] theorem ren_func (fn : Fn) (a b : Array Value) : ren e (.func fn a b) = .func (renFn e fn) (a.map (ren e)) (b.map (ren e)) := by simp [ren]
@[simp] theorem ren_nilFunc : ren e .nilFunc = .nilFunc := by simp [ren]
@[simp] theorem ren_nilIface : ren e .nilIface = .nilIface := by simp [ren]
@[simp] theorem ren_iface (t : TypeId) (v : Value) : ren e (.iface t v) = .iface t (ren e v) := by simp [ren]
@[simp] theorem ren_agg (cs : Array Value) : ren e (.agg cs) = .agg (cs.map (ren e)) := by simp [ren]
@[simp] theorem ren_tuple (cs : Array Value) : ren e (.tuple cs) = .tuple (cs.map (ren e)) := by simp [ren]
@[simp] theorem ren_undef : ren e undef = undef := by simp [undef]

/-- Two renamings that are the same at some numbers. -/
def Agree (D : Nat → Prop) (e e' : Env) : Prop := ∀ b, D b → e.ρ b = e'.ρ b ∧ e.σ b = e'.σ b
theorem Agree.refl (D : Nat → Prop) (e : Env) : Agree D e e := fun _ _ => ⟨rfl, rfl⟩
theorem Agree.symm {D : Nat → Prop} {e e' : Env} (h : Agree D e e') : Agree D e' e := fun b hb => ⟨(h b hb).1.symm, (h b hb).2.symm⟩
theorem Agree.trans {D D' : Nat → Prop} {e e' e'' : Env} (h : Agree D e e') (h' : Agree D' e' e'') (hle : ∀ b, D b → D' b) : Agree D e e'' :=
  fun b hb => ⟨(h b hb).1.trans (h' b (hle b hb)).1, (h b hb).2.trans (h' b (hle b hb)).2⟩
theorem Agree.mono {D D' : Nat → Prop} {e e' : Env} (h : Agree D e e') (hle : ∀ b, D' b → D b) : Agree D' e e' := fun b hb => h b (hle b hb)
/-- A value speaks of such blocks alone. -/
def Und (D : Nat → Prop) (v : Value) : Prop := ∀ e e', Agree D e e' → ren e v = ren e' v
theorem Und.mono {D D' : Nat → Prop} {v : Value} (h : Und D v) (hle : ∀ b, D b → D' b) : Und D' v := fun e e' ha => h e e' (ha.mono hle)
theorem Und.eq {D : Nat → Prop} {v : Value} (h : Und D v) (ha : Agree D e e') : ren e v = ren e' v := h e e' ha
theorem map_ren_congr {D : Nat → Prop} {l : List Value} (h : ∀ v ∈ l, Und D v) (ha : Agree D e e') : l.map (ren e) = l.map (ren e') :=
  List.map_congr_left fun v hv => (h v hv).eq ha

theorem ren_plain : ∀ (n : Nat) (v : Value), plain n v = true → ren e v = v := by
  intro n
  induction n with
  | zero =>
    intro v h
    unfold plain at h
    split at h <;> simp_all
  | succ n ih =>
    intro v h
    have hl : ∀ (l : Array Value), l.toList.all (plain n) = true → l.map (ren e) = l := by
      intro l hl
      apply Array.ext'
      rw [Array.toList_map]
      conv => rhs; rw [← List.map_id l.toList]
      exact List.map_congr_left fun v hv => ih v (by rw [List.all_eq_true] at hl; exact hl v hv)
    unfold plain at h
    split at h <;> simp_all [renFn]
theorem und_plain {n : Nat} {D : Nat → Prop} {v : Value} (h : plain n v = true) : Und D v := fun e e' _ => by rw [ren_plain n v h, ren_plain n v h]
theorem und_bool {n : Nat → Prop} (b : Bool) : Und n (.bool b) := fun _ _ _ => by simp
theorem und_int {n : Nat → Prop} (k : IntKind) (i : Int) : Und n (.int k i) := fun _ _ _ => by simp
theorem und_string {n : Nat → Prop} (s : ByteArray) : Und n (.string s) := fun _ _ _ => by simp
theorem und_undef {n : Nat → Prop} : Und n undef := fun _ _ _ => by simp
theorem und_nilIface {n : Nat → Prop} : Und n .nilIface := fun _ _ _ => by simp
theorem und_ptr {n : Nat → Prop} {a : Addr} (h : n a.block) : Und n (.pointer (some a)) := fun e e' ha => by simp [Env.addr, (ha _ h).1]
theorem und_slice {n : Nat → Prop} {a : Addr} {l c : Nat} (h : n a.block) : Und n (.slice (some a) l c) := fun e e' ha => by simp [Env.addr, (ha _ h).1, (ha _ h).2]
theorem und_nilslice {n : Nat → Prop} {l c : Nat} : Und n (.slice none l c) := fun _ _ _ => by simp
theorem und_iface {n : Nat → Prop} {t : TypeId} {v : Value} (h : Und n v) : Und n (.iface t v) := fun e e' ha => by simp [h.eq ha]
theorem und_iface_inv {n : Nat → Prop} {t : TypeId} {v : Value} (h : Und n (.iface t v)) : Und n v := fun e e' ha => by have := h e e' ha; simpa using this
theorem und_arr {n : Nat → Prop} {cs : Array Value} (h : ∀ v ∈ cs, Und n v) (ha : Agree n e e') : cs.map (ren e) = cs.map (ren e') :=
  Array.map_congr_left fun v hv => (h v hv).eq ha
theorem und_agg {n : Nat → Prop} {cs : Array Value} (h : ∀ v ∈ cs, Und n v) : Und n (.agg cs) := fun e e' ha => by simp only [ren_agg, und_arr h ha]
theorem und_tuple {n : Nat → Prop} {cs : Array Value} (h : ∀ v ∈ cs, Und n v) : Und n (.tuple cs) := fun e e' ha => by simp only [ren_tuple, und_arr h ha]
theorem mem_of_map_eq {f g : Value → Value} {cs : Array Value} (h : cs.map f = cs.map g) : ∀ v ∈ cs, f v = g v := by
  intro v hv
  have h' : cs.toList.map f = cs.toList.map g := by simpa using congrArg Array.toList h
  exact List.map_inj_left.1 h' v (by simpa using hv)
theorem und_agg_inv {n : Nat → Prop} {cs : Array Value} (h : Und n (.agg cs)) : ∀ v ∈ cs, Und n v :=
  fun v hv e e' ha => mem_of_map_eq (by have := h e e' ha; simpa only [ren_agg, Value.agg.injEq] using this) v hv
theorem und_tuple_inv {n : Nat → Prop} {cs : Array Value} (h : Und n (.tuple cs)) : ∀ v ∈ cs, Und n v :=
  fun v hv e e' ha => mem_of_map_eq (by have := h e e' ha; simpa only [ren_tuple, Value.tuple.injEq] using this) v hv
theorem und_func {n : Nat → Prop} {fn : Fn} {a b : Array Value} (hf : ∀ e e', Agree n e e' → renFn e fn = renFn e' fn) (ha : ∀ v ∈ a, Und n v) (hb : ∀ v ∈ b, Und n v) : Und n (.func fn a b) :=
  fun e e' h => by simp only [ren_func, und_arr ha h, und_arr hb h, hf e e' h]
theorem und_func_inv {n : Nat → Prop} {fn : Fn} {a b : Array Value} (h : Und n (.func fn a b)) :
    (∀ e e', Agree n e e' → renFn e fn = renFn e' fn) ∧ (∀ v ∈ a, Und n v) ∧ (∀ v ∈ b, Und n v) := by
  have h' : ∀ e e', Agree n e e' → renFn e fn = renFn e' fn ∧ a.map (ren e) = a.map (ren e') ∧ b.map (ren e) = b.map (ren e') :=
    fun e e' ha => by have := h e e' ha; simpa only [ren_func, Value.func.injEq] using this
  exact ⟨fun e e' ha => (h' e e' ha).1, fun v hv e e' ha => mem_of_map_eq (h' e e' ha).2.1 v hv, fun v hv e e' ha => mem_of_map_eq (h' e e' ha).2.2 v hv⟩
theorem und_of_eq {n : Nat → Prop} {v : Value} (f : Value → Value) (x : Value) (hx : Und n x) (h : ∀ e, ren e v = f (ren e x)) : Und n v :=
  fun e e' ha => by rw [h, h, hx.eq ha]
end Go.Eng
