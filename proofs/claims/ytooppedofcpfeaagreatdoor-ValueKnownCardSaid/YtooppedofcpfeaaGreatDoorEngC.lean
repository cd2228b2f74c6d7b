/- The relation between a followed heap and a real world, and the three turns of a heap. -/
import Derived.Test.YtooppedofcpfeaaGreatDoorEngB
set_option linter.all false
namespace Go.Eng
variable [Shift]

def renT (e : Env) : Target → Target
  | .fn f c => .fn (renFn e f) (c.map (ren e))
  | .collected r => .collected (e.ρ r)
  | t => t
def renD (e : Env) (d : Deferred) : Deferred := { target := renT e d.target, args := d.args.map (ren e) }
def DUnd (n : Nat → Prop) (d : Deferred) : Prop := ∀ e e', Agree n e e' → renD e d = renD e' d
theorem DUnd.mono {n m : Nat → Prop} {d : Deferred} (h : DUnd n d) (hle : ∀ b, n b → m b) : DUnd m d := fun e e' ha => h e e' (ha.mono hle)

/-- The temporaries of a frame. -/
def TRel (e : Env) (nt : Nat) (T : Tr Value) (arr : Array Value) : Prop := arr.size = nt ∧ ∀ t v, T.get t = some v → arr[t]? = some (ren e v)
def TUnd (n : Nat → Prop) (T : Tr Value) : Prop := ∀ t v, T.get t = some v → Und n v

/-- The parameters of a relation: the program, how many blocks are its variables', from which number on blocks may be written, how many real blocks were there. -/
structure Par where
  P : Program
  G : Nat
  N0 : Nat
  B : Nat

def ORel (p : Par) (e : Env) (b : Nat) : AObj → Obj → Prop
  | .cells c el fz g, r => ∃ tail el' fz', r = .cells ((c.map (ren e)).toArray ++ tail) el' fz' ∧ (g = false → tail = #[] ∧ e.σ b = 0) ∧
      (p.N0 ≤ b → el' = el ∧ (fz' = fz ∨ (fz ≠ (0, 0) ∧ c.length ≤ fz.1 ∧ c.length ≤ fz'.1))) ∧ (g = true → ∃ i, p.P.info? el = some i ∧ tail.size = e.σ b * i.size)
  | .loop st pend _ T nt ps a bd d, r => ∃ arr fn, r = .loop { state := st, pending := pend, fn := fn, tmps := arr, params := ps, assign := a, body := bd, defers := e.ρ d } ∧ TRel e nt T arr
  | .deferred d, r => r = .deferred (d.map (·.map (renD e)))

def OUnd (p : Par) (n : Nat → Prop) : AObj → Prop
  | .cells c _ _ _ => ∀ v ∈ c, Und n v
  | .loop _ _ _ T nt ps a bd d => TUnd n T ∧ n d ∧ cOk p.G nt a = true ∧ cOk p.G nt bd = true ∧ nt ≤ 2 ^ 30 ∧ ∀ q ∈ ps.toList, q < nt
  | .deferred d => ∀ l, d = some l → ∀ x ∈ l, DUnd n x

/-- The blocks of which what is followed may speak. -/
def Heap.D (h : Heap) (b : Nat) : Prop := b < h.next ∧ b ∉ h.ghost

structure Rel (p : Par) (e : Env) (H : Heap) (w : World) : Prop where
  obj : ∀ b o, H.get b = some o → ∃ r, w.heap[e.ρ b]? = some r ∧ ORel p e b o r
  und : ∀ b o, H.get b = some o → OUnd p H.D o
  lt : ∀ b o, H.get b = some o → H.D b
  inj : ∀ b b' o o', H.get b = some o → H.get b' = some o' → e.ρ b = e.ρ b' → b = b'
  glo : ∀ g, g < p.G → e.ρ g = g ∧ e.σ g = 0
  own : ∀ b o, H.get b = some o → p.N0 ≤ b → p.B ≤ e.ρ b
  siz : p.B ≤ w.heap.size
  nxt : p.N0 ≤ H.next
  gn : p.G ≤ p.N0
  sml : H.next + 1 < 2 ^ 40
  gst : ∀ b, b ∈ H.ghost → p.N0 ≤ b ∧ b < H.next
  fix : ∀ b, b < p.N0 → e.ρ b < p.B
  sft : ∀ b, Shift.δ b ≠ 0 → p.G ≤ b ∧ b < p.N0 ∧ H.get b = none

def Own (p : Par) (e : Env) (H : Heap) (r : Nat) : Prop := ∃ b o, H.get b = some o ∧ p.N0 ≤ b ∧ e.ρ b = r

/-- What comes of a followed step. -/
structure Step (p : Par) (e : Env) (H : Heap) (w : World) (e' : Env) (H' : Heap) (w' : World) : Prop where
  agree : Agree H.D e e'
  le : H.next ≤ H'.next
  gho : H'.ghost = H.ghost
  rel : Rel p e' H' w'
  size : w.heap.size ≤ w'.heap.size
  keep : ∀ r, r < w.heap.size → ¬ Own p e H r → w'.heap[r]? = w.heap[r]?
  own : ∀ r, Own p e' H' r → Own p e H r ∨ w.heap.size ≤ r
  tape : w'.tape = w.tape
  os : w'.os = w.os
  output : w'.output = w.output

variable {p : Par} {e e' e'' : Env} {H H' H'' : Heap} {w w' w'' : World}
theorem Heap.D_mono (hle : H.next ≤ H'.next) (hg : H'.ghost = H.ghost) : ∀ b, H.D b → H'.D b := fun b hb => ⟨Nat.lt_of_lt_of_le hb.1 hle, by rw [hg]; exact hb.2⟩
theorem Step.sub (h : Step p e H w e' H' w') : ∀ b, H.D b → H'.D b := Heap.D_mono h.le h.gho
theorem Rel.gloD (h : Rel p e H w) {g : Nat} (hg : g < p.G) : H.D g := by
  have := h.nxt; have := h.gn
  exact ⟨by omega, fun hb => by have := h.gst _ hb; omega⟩
theorem Rel.lowD (h : Rel p e H w) {g : Nat} (hg : g < p.N0) : H.D g := by
  have := h.nxt
  exact ⟨by omega, fun hb => by have := h.gst _ hb; omega⟩
theorem Rel.shift (h : Rel p e H w) {b : Nat} {o : AObj} (hb : H.get b = some o) : Shift.δ b = 0 := by
  by_cases hd : Shift.δ b = 0
  · exact hd
  · rw [(h.sft b hd).2.2] at hb; cases hb
theorem Rel.shiftG (h : Rel p e H w) {b : Nat} (hb : b < p.G) : Shift.δ b = 0 := by
  by_cases hd : Shift.δ b = 0
  · exact hd
  · have := (h.sft b hd).1; omega
theorem Rel.shiftN (h : Rel p e H w) {b : Nat} (hb : p.N0 ≤ b) : Shift.δ b = 0 := by
  by_cases hd : Shift.δ b = 0
  · exact hd
  · have := (h.sft b hd).2.1; omega
theorem Rel.addr (h : Rel p e H w) {a : Addr} {o : AObj} (hb : H.get a.block = some o) : e.addr a = { a with block := e.ρ a.block } := by
  simp [Env.addr, h.shift hb]
theorem Rel.addrN (h : Rel p e H w) (e' : Env) {b : Nat} (hb : p.N0 ≤ b) : e'.addr ⟨b, 0, none⟩ = ⟨e'.ρ b, 0, none⟩ := by
  simp [Env.addr, h.shiftN hb]
theorem Rel.newAddr (h : Rel p e H w) (e' : Env) : e'.addr ⟨H.next, 0, none⟩ = ⟨e'.ρ H.next, 0, none⟩ := h.addrN e' h.nxt
theorem Rel.newD (h : Rel p e H w) : H.next < H.next + 1 ∧ H.next ∉ H.ghost := ⟨Nat.lt_succ_self _, fun hb => Nat.lt_irrefl _ (h.gst _ hb).2⟩
theorem Step.refl (h : Rel p e H w) : Step p e H w e H w :=
  ⟨.refl _ _, Nat.le_refl _, rfl, h, Nat.le_refl _, fun _ _ _ => rfl, fun _ h => .inl h, rfl, rfl, rfl⟩
theorem Step.trans (h : Step p e H w e' H' w') (k : Step p e' H' w' e'' H'' w'') : Step p e H w e'' H'' w'' where
  agree := h.agree.trans k.agree h.sub
  le := Nat.le_trans h.le k.le
  gho := k.gho.trans h.gho
  rel := k.rel
  size := Nat.le_trans h.size k.size
  keep r hr ho := by
    have ho' : ¬ Own p e' H' r := fun hx => (h.own r hx).elim ho (fun hle => by omega)
    rw [k.keep r (Nat.lt_of_lt_of_le hr h.size) ho', h.keep r hr ho]
  own r hr := by
    rcases k.own r hr with h1 | h1
    · exact h.own r h1
    · exact .inr (Nat.le_trans h.size h1)
  tape := k.tape.trans h.tape
  os := k.os.trans h.os
  output := k.output.trans h.output

theorem Rel.drew (h : Rel p e H w) : Rel p e H w.drew := ⟨h.obj, h.und, h.lt, h.inj, h.glo, h.own, h.siz, h.nxt, h.gn, h.sml, h.gst, h.fix, h.sft⟩
theorem Step.drew (h : Rel p e H w) : Step p e H w e H w.drew :=
  ⟨.refl _ _, Nat.le_refl _, rfl, h.drew, Nat.le_refl _, fun _ _ _ => rfl, fun _ h => .inl h, rfl, rfl, rfl⟩

theorem TRel.agree {nt : Nat} {T : Tr Value} {arr : Array Value} {n : Nat → Prop} (h : TRel e nt T arr) (hu : TUnd n T) (ha : Agree n e e') : TRel e' nt T arr :=
  ⟨h.1, fun t v hv => by rw [h.2 t v hv, (hu t v hv).eq ha]⟩
theorem TUnd.mono {n m : Nat → Prop} {T : Tr Value} (h : TUnd n T) (hle : ∀ b, n b → m b) : TUnd m T := fun t v hv => (h t v hv).mono hle

theorem ORel.agree {b : Nat} {n : Nat → Prop} {o : AObj} {r : Obj} (h : ORel p e b o r) (hu : OUnd p n o) (hb : n b) (ha : Agree n e e') : ORel p e' b o r := by
  cases o with
  | cells c el fz g =>
    obtain ⟨tail, el', fz', rfl, h1, h2, h3⟩ := h
    refine ⟨tail, el', fz', by rw [map_ren_congr hu ha], fun hg => ?_, h2, fun hg => ?_⟩
    · rw [← (ha b hb).2]; exact h1 hg
    · rw [← (ha b hb).2]; exact h3 hg
  | loop st pend fid T nt ps a bd d =>
    obtain ⟨arr, fn, rfl, ht⟩ := h
    exact ⟨arr, fn, by rw [(ha d hu.2.1).1], ht.agree hu.1 ha⟩
  | deferred d =>
    simp only [ORel] at h ⊢
    subst h
    cases d with
    | none => rfl
    | some l =>
      simp only [Option.map_some]
      rw [List.map_congr_left fun x hx => hu l rfl x hx _ _ ha]
theorem OUnd.mono {n m : Nat → Prop} {o : AObj} (h : OUnd p n o) (hle : ∀ b, n b → m b) : OUnd p m o := by
  cases o with
  | cells c el fz g => exact fun v hv => (h v hv).mono hle
  | loop st pend fid T nt ps a bd d => exact ⟨h.1.mono hle, hle _ h.2.1, h.2.2.1, h.2.2.2.1, h.2.2.2.2⟩
  | deferred d => exact fun l hl x hx => (h l hl x hx).mono hle

@[simp] theorem Heap.get_new (h : Heap) (o : AObj) (b : Nat) (hs : h.next + 1 < 2 ^ 40) : (h.new o).get b = if b = h.next then some o else h.get b := Tr.get_set _ _ _ _ hs
theorem Heap.get_set (h : Heap) (b' : Nat) (o : Option AObj) (b : Nat) (hs : b' + 1 < 2 ^ 40) : (h.set b' o).get b = if b = b' then o else h.get b := Tr.get_set _ _ _ _ hs
@[simp] theorem Heap.next_new (h : Heap) (o : AObj) : (h.new o).next = h.next + 1 := rfl
@[simp] theorem Heap.ghost_new (h : Heap) (o : AObj) : (h.new o).ghost = h.ghost := rfl
@[simp] theorem Heap.ghost_set (h : Heap) (b : Nat) (o : Option AObj) : (h.set b o).ghost = h.ghost := rfl
@[simp] theorem Heap.next_set (h : Heap) (b : Nat) (o : Option AObj) : (h.set b o).next = h.next := rfl

/-- The renaming with one block more. -/
def Env.more (e : Env) (n r s : Nat) : Env := ⟨fun b => if b = n then r else e.ρ b, fun b => if b = n then s else e.σ b⟩
theorem Env.more_agree' (e : Env) (n r s : Nat) {D : Nat → Prop} (h : ¬ D n) : Agree D e (e.more n r s) := fun b hb => by
  have : b ≠ n := fun heq => h (heq ▸ hb)
  simp [Env.more, this]
theorem Env.more_agree (e : Env) (H : Heap) (r s : Nat) : Agree H.D e (e.more H.next r s) := e.more_agree' _ _ _ fun h => Nat.lt_irrefl _ h.1
@[simp] theorem Env.more_ρ (e : Env) (n r s : Nat) : (e.more n r s).ρ n = r := by simp [Env.more]
@[simp] theorem Env.more_σ (e : Env) (n r s : Nat) : (e.more n r s).σ n = s := by simp [Env.more]

theorem alloc_heap (w : World) (r : Obj) : (w.alloc r).heap = w.heap.push r := rfl

/-- A new block. -/
theorem Step.alloc (h : Rel p e H w) (o : AObj) (r : Obj) (s : Nat) (hu : OUnd p H.D o) (ho : ORel p (e.more H.next w.heap.size s) H.next o r) (hs : H.next + 2 < 2 ^ 40) :
    Step p e H w (e.more H.next w.heap.size s) (H.new o) (w.alloc r) := by
  have hg : ∀ b o', (H.new o).get b = some o' → (b = H.next ∧ o' = o) ∨ (b ≠ H.next ∧ H.get b = some o') := by
    intro b o' hb
    rw [Heap.get_new _ _ _ (by omega)] at hb
    split at hb
    · rename_i hbn; exact .inl ⟨hbn, (Option.some.inj hb).symm⟩
    · rename_i hbn; exact .inr ⟨hbn, hb⟩
  have hold : ∀ b o', H.get b = some o' → e.ρ b < w.heap.size := fun b o' hb => by
    obtain ⟨r', hr', _⟩ := h.obj b o' hb
    exact (Array.getElem?_eq_some_iff.1 hr').1
  have hag := e.more_agree H w.heap.size s
  have hmono : ∀ b, H.D b → (H.new o).D b := Heap.D_mono (by simp) rfl
  refine ⟨hag, by simp, rfl, ⟨?_, ?_, ?_, ?_, ?_, ?_, ?_, ?_, h.gn, ?_, fun b hb => ⟨(h.gst b hb).1, Nat.lt_succ_of_lt (h.gst b hb).2⟩, fun b hb => by rw [← (hag b (h.lowD hb)).1]; exact h.fix b hb, fun b hb => ?_⟩, by simp, ?_, ?_, rfl, rfl, rfl⟩
  · intro b o' hb
    rcases hg b o' hb with ⟨rfl, rfl⟩ | ⟨hne, hb⟩
    · exact ⟨r, by rw [alloc_heap, Env.more_ρ]; simp, ho⟩
    · obtain ⟨r', hr', hor⟩ := h.obj b o' hb
      refine ⟨r', ?_, hor.agree (h.und b o' hb) (h.lt b o' hb) hag⟩
      rw [← (hag b (h.lt b o' hb)).1]
      rw [alloc_heap, Array.getElem?_push, if_neg (Nat.ne_of_lt (hold b o' hb)), hr']
  · intro b o' hb
    rcases hg b o' hb with ⟨rfl, rfl⟩ | ⟨_, hb⟩
    · exact hu.mono hmono
    · exact (h.und b o' hb).mono hmono
  · intro b o' hb
    rcases hg b o' hb with ⟨rfl, _⟩ | ⟨_, hb⟩
    · exact h.newD
    · exact hmono _ (h.lt b o' hb)
  · intro b b' o1 o2 hb hb' heq
    rcases hg b o1 hb with ⟨rfl, rfl⟩ | ⟨hne, hb1⟩ <;> rcases hg b' o2 hb' with ⟨rfl, rfl⟩ | ⟨hne', hb2⟩
    · rfl
    · rw [Env.more_ρ, ← (hag b' (h.lt b' o2 hb2)).1] at heq
      have := hold b' o2 hb2; omega
    · rw [Env.more_ρ, ← (hag b (h.lt b o1 hb1)).1] at heq
      have := hold b o1 hb1; omega
    · rw [← (hag b (h.lt b o1 hb1)).1, ← (hag b' (h.lt b' o2 hb2)).1] at heq
      exact h.inj b b' o1 o2 hb1 hb2 heq
  · intro g hg'
    rw [← (hag g (h.gloD hg')).1, ← (hag g (h.gloD hg')).2]; exact h.glo g hg'
  · intro b o' hb hn
    rcases hg b o' hb with ⟨rfl, _⟩ | ⟨_, hb⟩
    · simp; exact h.siz
    · rw [← (hag b (h.lt b o' hb)).1]; exact h.own b o' hb hn
  · have := h.siz; simp; omega
  · have := h.nxt; simp; omega
  · simp; omega
  · obtain ⟨h1, h2, h3⟩ := h.sft b hb
    have := h.nxt
    exact ⟨h1, h2, by rw [Heap.get_new _ _ _ (by omega), if_neg (by omega)]; exact h3⟩
  · intro r' hr' _
    rw [alloc_heap, Array.getElem?_push, if_neg (Nat.ne_of_lt hr')]
  · rintro r' ⟨b, o', hb, hn, rfl⟩
    rcases hg b o' hb with ⟨rfl, _⟩ | ⟨_, hb⟩
    · simp
    · rw [← (hag b (h.lt b o' hb)).1]; exact .inl ⟨b, o', hb, hn, rfl⟩

/-- A block is another one. -/
theorem Step.put (h : Rel p e H w) (b : Nat) (o o0 : AObj) (r : Obj) (hb : H.get b = some o0) (hn : p.N0 ≤ b) (hu : OUnd p H.D o) (ho : ORel p e b o r)
    (heap : w'.heap = w.heap.setIfInBounds (e.ρ b) r) (ht : w'.tape = w.tape) (hos : w'.os = w.os) (hout : w'.output = w.output) :
    Step p e H w e (H.set b (some o)) w' := by
  have hlt := (h.lt b o0 hb).1
  have hsm := h.sml
  obtain ⟨r0, hr0, _⟩ := h.obj b o0 hb
  have hin := (Array.getElem?_eq_some_iff.1 hr0).1
  have hg : ∀ b' o', (H.set b (some o)).get b' = some o' → (b' = b ∧ o' = o) ∨ (b' ≠ b ∧ H.get b' = some o') := by
    intro b' o' hb'
    rw [Heap.get_set _ _ _ _ (by omega)] at hb'
    split at hb'
    · rename_i hbn; exact .inl ⟨hbn, (Option.some.inj hb').symm⟩
    · rename_i hbn; exact .inr ⟨hbn, hb'⟩
  have hsome : ∀ b' o', (H.set b (some o)).get b' = some o' → ∃ o1, H.get b' = some o1 := fun b' o' hb' => by
    rcases hg b' o' hb' with ⟨rfl, _⟩ | ⟨_, h2⟩
    · exact ⟨o0, hb⟩
    · exact ⟨o', h2⟩
  refine ⟨.refl _ _, Nat.le_refl _, rfl, ⟨?_, ?_, ?_, ?_, h.glo, ?_, ?_, h.nxt, h.gn, h.sml, h.gst, h.fix, fun b' hb' => ?_⟩, by rw [heap]; simp, ?_, ?_, ht, hos, hout⟩
  · intro b' o' hb'
    rcases hg b' o' hb' with ⟨rfl, rfl⟩ | ⟨hne, hb2⟩
    · exact ⟨r, by rw [heap]; simp [hin], ho⟩
    · obtain ⟨r', hr', hor⟩ := h.obj b' o' hb2
      have : e.ρ b ≠ e.ρ b' := fun heq => hne (h.inj b' b o' o0 hb2 hb heq.symm)
      exact ⟨r', by rw [heap, Array.getElem?_setIfInBounds_ne this]; exact hr', hor⟩
  · intro b' o' hb'
    rcases hg b' o' hb' with ⟨rfl, rfl⟩ | ⟨_, hb2⟩
    · exact hu
    · exact h.und b' o' hb2
  · intro b' o' hb'
    obtain ⟨o1, h1⟩ := hsome b' o' hb'
    exact h.lt b' o1 h1
  · intro b1 b2 o1 o2 h1 h2 heq
    obtain ⟨_, h1'⟩ := hsome b1 o1 h1
    obtain ⟨_, h2'⟩ := hsome b2 o2 h2
    exact h.inj _ _ _ _ h1' h2' heq
  · intro b' o' hb' hn'
    obtain ⟨o1, h1⟩ := hsome b' o' hb'
    exact h.own b' o1 h1 hn'
  · rw [heap]; simpa using h.siz
  · obtain ⟨h1, h2, h3⟩ := h.sft b' hb'
    exact ⟨h1, h2, by rw [Heap.get_set _ _ _ _ (by omega), if_neg (by omega)]; exact h3⟩
  · intro r' _ hno
    have : e.ρ b ≠ r' := fun heq => hno ⟨b, o0, hb, hn, heq⟩
    rw [heap, Array.getElem?_setIfInBounds_ne this]
  · rintro r' ⟨b', o', hb', hn', rfl⟩
    obtain ⟨o1, h1⟩ := hsome b' o' hb'
    exact .inl ⟨b', o1, h1, hn', rfl⟩

/-- A block is forgotten. -/
theorem Rel.forget (h : Rel p e H w) (b : Nat) (hb : b + 1 < 2 ^ 40) : Rel p e (H.set b none) w := by
  have hg : ∀ b' o', (H.set b none).get b' = some o' → H.get b' = some o' := by
    intro b' o' hb'
    rw [Heap.get_set _ _ _ _ hb] at hb'
    split at hb'
    · cases hb'
    · exact hb'
  exact ⟨fun b' o' hb' => h.obj b' o' (hg _ _ hb'), fun b' o' hb' => h.und b' o' (hg _ _ hb'), fun b' o' hb' => h.lt b' o' (hg _ _ hb'),
    fun b1 b2 o1 o2 h1 h2 heq => h.inj b1 b2 o1 o2 (hg _ _ h1) (hg _ _ h2) heq, h.glo, fun b' o' hb' => h.own b' o' (hg _ _ hb'), h.siz, h.nxt, h.gn, h.sml, h.gst, h.fix, fun b' hb' => ⟨(h.sft b' hb').1, (h.sft b' hb').2.1, by
      rw [Heap.get_set _ _ _ _ hb]; split <;> first | rfl | exact (h.sft b' hb').2.2⟩⟩
theorem Step.forget (h : Rel p e H w) (b : Nat) (hb : b + 1 < 2 ^ 40) : Step p e H w e (H.set b none) w := by
  refine ⟨.refl _ _, Nat.le_refl _, rfl, h.forget b hb, Nat.le_refl _, fun _ _ _ => rfl, ?_, rfl, rfl, rfl⟩
  rintro r ⟨b', o', hb', hn, hr⟩
  rw [Heap.get_set _ _ _ _ hb] at hb'
  split at hb'
  · cases hb'
  · exact .inl ⟨b', o', hb', hn, hr⟩

/-- A block is there under another number, and another one in its place: a row that has grown where it lies. -/
theorem Step.growIn (h : Rel p e H w) (b : Nat) (o o0 : AObj) (r : Obj) (s : Nat) (hb : H.get b = some o0) (hn : p.N0 ≤ b) (hu : OUnd p H.D o)
    (ho : ORel p (e.more H.next (e.ρ b) s) H.next o r) (hs : H.next + 2 < 2 ^ 40)
    (heap : w'.heap = w.heap.setIfInBounds (e.ρ b) r) (ht : w'.tape = w.tape) (hos : w'.os = w.os) (hout : w'.output = w.output) :
    Step p e H w (e.more H.next (e.ρ b) s) ((H.set b none).new o) w' := by
  have hlt := (h.lt b o0 hb).1
  obtain ⟨r0, hr0, _⟩ := h.obj b o0 hb
  have hin := (Array.getElem?_eq_some_iff.1 hr0).1
  have hmono : ∀ b', H.D b' → ((H.set b none).new o).D b' := Heap.D_mono (by simp) rfl
  have hg : ∀ b' o', ((H.set b none).new o).get b' = some o' → (b' = H.next ∧ o' = o) ∨ (b' ≠ H.next ∧ b' ≠ b ∧ H.get b' = some o') := by
    intro b' o' hb'
    rw [Heap.get_new _ _ _ (by simp; omega)] at hb'
    by_cases hbn : b' = (H.set b none).next
    · rw [if_pos hbn] at hb'; exact .inl ⟨hbn, (Option.some.inj hb').symm⟩
    · rw [if_neg hbn, Heap.get_set _ _ _ _ (by omega)] at hb'
      by_cases hbb : b' = b
      · rw [if_pos hbb] at hb'; cases hb'
      · rw [if_neg hbb] at hb'; exact .inr ⟨hbn, hbb, hb'⟩
  have hag := e.more_agree H (e.ρ b) s
  refine ⟨hag, by simp, rfl, ⟨?_, ?_, ?_, ?_, ?_, ?_, ?_, ?_, h.gn, ?_, fun b' hb' => ⟨(h.gst b' hb').1, Nat.lt_succ_of_lt (h.gst b' hb').2⟩, fun b' hb' => by rw [← (hag b' (h.lowD hb')).1]; exact h.fix b' hb', fun b' hb' => ?_⟩, by rw [heap]; simp, ?_, ?_, ht, hos, hout⟩
  · intro b' o' hb'
    rcases hg b' o' hb' with ⟨rfl, rfl⟩ | ⟨hne, hnb, hb2⟩
    · exact ⟨r, by rw [heap, Env.more_ρ]; simp [hin], ho⟩
    · obtain ⟨r', hr', hor⟩ := h.obj b' o' hb2
      have : e.ρ b ≠ e.ρ b' := fun heq => hnb (h.inj b' b o' o0 hb2 hb heq.symm)
      exact ⟨r', by rw [heap, ← (hag b' (h.lt b' o' hb2)).1, Array.getElem?_setIfInBounds_ne this]; exact hr', hor.agree (h.und b' o' hb2) (h.lt b' o' hb2) hag⟩
  · intro b' o' hb'
    rcases hg b' o' hb' with ⟨rfl, rfl⟩ | ⟨_, _, hb2⟩
    · exact hu.mono hmono
    · exact (h.und b' o' hb2).mono hmono
  · intro b' o' hb'
    rcases hg b' o' hb' with ⟨rfl, _⟩ | ⟨_, _, hb2⟩
    · exact h.newD
    · exact hmono _ (h.lt b' o' hb2)
  · intro b1 b2 o1 o2 h1 h2 heq
    rcases hg b1 o1 h1 with ⟨rfl, rfl⟩ | ⟨hne, hnb, hb1⟩ <;> rcases hg b2 o2 h2 with ⟨rfl, rfl⟩ | ⟨hne', hnb', hb2⟩
    · rfl
    · rw [Env.more_ρ, ← (hag b2 (h.lt b2 o2 hb2)).1] at heq
      exact absurd (h.inj b b2 o0 o2 hb hb2 heq).symm hnb'
    · rw [Env.more_ρ, ← (hag b1 (h.lt b1 o1 hb1)).1] at heq
      exact absurd (h.inj b1 b o1 o0 hb1 hb heq) hnb
    · rw [← (hag b1 (h.lt b1 o1 hb1)).1, ← (hag b2 (h.lt b2 o2 hb2)).1] at heq
      exact h.inj b1 b2 o1 o2 hb1 hb2 heq
  · intro g hg'
    rw [← (hag g (h.gloD hg')).1, ← (hag g (h.gloD hg')).2]; exact h.glo g hg'
  · intro b' o' hb' hn'
    rcases hg b' o' hb' with ⟨rfl, _⟩ | ⟨_, _, hb2⟩
    · simp; exact h.own b o0 hb hn
    · rw [← (hag b' (h.lt b' o' hb2)).1]; exact h.own b' o' hb2 hn'
  · rw [heap]; simpa using h.siz
  · have := h.nxt; simp; omega
  · simp; omega
  · obtain ⟨h1, h2, h3⟩ := h.sft b' hb'
    have := h.nxt
    refine ⟨h1, h2, ?_⟩
    rw [Heap.get_new _ _ _ (by simp; omega), if_neg (by simp; omega), Heap.get_set _ _ _ _ (by omega)]
    split <;> first | rfl | exact h3
  · intro r' _ hno
    have : e.ρ b ≠ r' := fun heq => hno ⟨b, o0, hb, hn, heq⟩
    rw [heap, Array.getElem?_setIfInBounds_ne this]
  · rintro r' ⟨b', o', hb', hn', rfl⟩
    rcases hg b' o' hb' with ⟨rfl, _⟩ | ⟨_, _, hb2⟩
    · simp; exact .inl ⟨b, o0, hb, hn, rfl⟩
    · rw [← (hag b' (h.lt b' o' hb2)).1]; exact .inl ⟨b', o', hb2, hn', rfl⟩
end Go.Eng
