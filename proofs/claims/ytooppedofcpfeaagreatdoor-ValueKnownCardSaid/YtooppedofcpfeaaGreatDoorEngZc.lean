/- States that are written out. -/
import Derived.Test.YtooppedofcpfeaaGreatDoorEngZb
set_option linter.all false
namespace Go.Eng

structure LSt where
  T : List (Nat × Value)
  h : List (Nat × AObj)
  next : Nat

def setAll {α : Type} : List (Nat × α) → Tr α → Tr α
  | [], t => t
  | x :: l, t => setAll l (t.set x.1 (some x.2))
def LSt.st (l : LSt) : St := ⟨setAll l.T .e, ⟨setAll l.h .e, l.next, []⟩, []⟩

theorem setAll_get {α : Type} : ∀ (l : List (Nat × α)) (t : Tr α) (k : Nat) (v : α), (∀ x ∈ l, x.1 < 2 ^ 30) → (setAll l t).get k = some v → (k, v) ∈ l ∨ t.get k = some v
  | [], t, k, v, _, h => .inr h
  | x :: l, t, k, v, hl, h => by
    rcases setAll_get l _ k v (fun y hy => hl y (by simp [hy])) h with h1 | h1
    · exact .inl (by simp [h1])
    · have := hl x (by simp)
      rw [Tr.get_set _ _ _ _ (by omega)] at h1
      split at h1
      · rename_i hk; subst hk; cases h1; exact .inl (by simp)
      · exact .inr h1

def sameO : AObj → AObj → Bool
  | .cells c el fz g, .cells c' el' fz' g' => Nat.beq c.length c'.length && (c.zip c').all (fun p => sameV 8 p.1 p.2) && Nat.beq el el' && Nat.beq fz.1 fz'.1 && Nat.beq fz.2 fz'.2 && (g == g')
  | _, _ => false
theorem sameO_eq {a b : AObj} (h : sameO a b = true) : a = b := by
  letI : Shift := ⟨fun _ => 0⟩
  cases a <;> cases b <;> simp only [sameO] at h <;> try (cases h; done)
  rename_i c el fz g c' el' fz' g'
  simp only [Bool.and_eq_true, List.all_eq_true, beq_iff_eq] at h
  obtain ⟨⟨⟨⟨⟨h1, h2⟩, h3⟩, h4⟩, h5⟩, h6⟩ := h
  have hl := Nat.eq_of_beq_eq_true h1
  have hc : c = c' := by
    apply List.ext_getElem hl
    intro i hi hi'
    exact sameV_eq 8 _ _ (h2 (c[i], c'[i]) (by rw [List.mem_iff_getElem]; exact ⟨i, by simp; omega, by simp⟩))
  obtain ⟨f1, f2⟩ := fz
  obtain ⟨f1', f2'⟩ := fz'
  rw [hc, Nat.eq_of_beq_eq_true h3, h6, show f1 = f1' from Nat.eq_of_beq_eq_true h4, show f2 = f2' from Nat.eq_of_beq_eq_true h5]

def lessB (s1 : St) (l : LSt) : Bool :=
  s1.ds.isEmpty && s1.h.ghost.isEmpty && Nat.beq s1.h.next l.next && l.T.all (fun x => Nat.blt x.1 1000000000 && (match s1.T.get x.1 with | some v => sameV 8 v x.2 | none => false)) &&
    l.h.all (fun x => Nat.blt x.1 1000000000 && (match s1.h.get x.1 with | some o => sameO o x.2 | none => false))
theorem less_of {s1 : St} {l : LSt} (h : lessB s1 l = true) : Less s1 l.st := by
  letI : Shift := ⟨fun _ => 0⟩
  simp only [lessB, Bool.and_eq_true, List.all_eq_true, List.isEmpty_iff, Nat.blt_eq] at h
  obtain ⟨⟨⟨⟨h1, h2⟩, h3⟩, h4⟩, h5⟩ := h
  refine ⟨fun t v hv => ?_, fun b o hb => ?_, (Nat.eq_of_beq_eq_true h3).symm, h2.symm, h1.symm⟩
  · rcases setAll_get l.T .e t v (fun x hx => by have := (h4 x hx).1; omega) hv with hx | hx
    · have := (h4 _ hx).2
      split at this
      · rename_i v' hv'; simp only at hv'; rw [hv', sameV_eq _ _ _ this]
      · cases this
    · simp [Tr.get] at hx
  · rcases setAll_get l.h .e b o (fun x hx => by have := (h5 x hx).1; omega) hb with hx | hx
    · have := (h5 _ hx).2
      split at this
      · rename_i o' ho'
        simp only at ho'
        show s1.h.get b = some o
        rw [ho', sameO_eq this]
      · cases this
    · simp [Tr.get] at hx

def sameEx : Ex → Ex → Bool
  | .normal, .normal => true
  | .exit i, .exit j => Nat.beq i j
  | .ret, .ret => true
  | _, _ => false
theorem sameEx_eq {a b : Ex} (h : sameEx a b = true) : a = b ∧ exOk b = true := by
  cases a <;> cases b <;> simp only [sameEx] at h <;> first | (cases h; done) | exact ⟨rfl, rfl⟩ | exact ⟨by rw [Nat.eq_of_beq_eq_true h], rfl⟩

/-- A piece: a run from one state to the next one. -/
def pieceB (Z : Tab) (fuel k nt : Nat) (c : Code) (s : St) (ex : Ex) (l : LSt) : Bool :=
  cOk 7 nt c && (match run Z fuel (calls Z fuel k) ⟨0, nt, false⟩ c s with | some (ex1, s1) => sameEx ex1 ex && lessB s1 l | none => false)
def iterN (f : St → Option (Ex × St)) : Nat → St → Option St
  | 0, s => some s
  | n + 1, s => match f s with | some (.normal, s') => iterN f n s' | _ => none
/-- So many rounds of a loop. -/
def roundsB (Z : Tab) (fuel k nt : Nat) (q : Nat) (c : Code) (s : St) (l : LSt) : Bool :=
  cOk 7 nt c && (match iterN (run Z fuel (calls Z fuel k) ⟨0, nt, false⟩ c) q s with | some s1 => lessB s1 l | none => false)
/-- The rest of a loop. -/
def restB (Z : Tab) (fuel k nt : Nat) (q : Nat) (c : Code) (s : St) (ex : Ex) (l : LSt) : Bool :=
  cOk 7 nt c && (match iter (run Z fuel (calls Z fuel k) ⟨0, nt, false⟩ c) q s with | some (ex1, s1) => sameEx ex1 ex && lessB s1 l | none => false)

section
variable [Shift] {p : Par} {Z : Tab} {fuel k n nt : Nat} {c : Code} {s : St} {l : LSt} {ex : Ex}
theorem tri_piece (hZ : TOk Z p) (hG : p.G = 7) (hnt : nt ≤ 2 ^ 30) (h : pieceB Z fuel k nt c s ex l = true) : Tri p n nt c s ex l.st := by
  simp only [pieceB, Bool.and_eq_true] at h
  obtain ⟨hc, h⟩ := h
  split at h
  · rename_i ex1 s1 hrun
    simp only [Bool.and_eq_true] at h
    obtain ⟨rfl, hx⟩ := sameEx_eq h.1
    exact tri_run hZ hnt (by rw [hG]; exact hc) hrun hx (less_of h.2)
  · cases h
theorem triL_rest (hZ : TOk Z p) (hG : p.G = 7) (hnt : nt ≤ 2 ^ 30) {q : Nat} (h : restB Z fuel k nt q c s ex l = true) : TriL p n nt c s ex l.st := by
  simp only [restB, Bool.and_eq_true] at h
  obtain ⟨hc, h⟩ := h
  split at h
  · rename_i ex1 s1 hrun
    simp only [Bool.and_eq_true] at h
    obtain ⟨rfl, hx⟩ := sameEx_eq h.1
    exact triL_iter hZ hnt (by rw [hG]; exact hc) q hrun hx (less_of h.2)
  · cases h
theorem triL_iterN (hZ : TOk Z p) (hG : p.G = 7) (hnt : nt ≤ 2 ^ 30) (hc : cOk 7 nt c = true) {s3 : St} : ∀ (q : Nat) (s s1 : St), iterN (run Z fuel (calls Z fuel k) ⟨0, nt, false⟩ c) q s = some s1 → ∀ s2, Less s1 s2 → TriL p n nt c s2 ex s3 → TriL p n nt c s ex s3
  | 0, s, s1, h, s2, hl, h2 => by
    simp only [iterN, Option.some.injEq] at h
    subst h
    obtain ⟨m, hm⟩ := h2
    refine ⟨m, fun e w a hS => ?_⟩
    have := hm e w a (hS.less hl)
    refine roundsIn_mono ?_ _ _ _ this
    rintro E a1 w1 ⟨e1, h1, h2, h3⟩
    refine ⟨e1, ?_, h2, h3⟩
    have hd : s2.h.D = s.h.D := by funext b; simp only [Heap.D, hl.next, hl.ghost]
    refine ⟨by have := h1.agree; rwa [hd] at this, by rw [← hl.next]; exact h1.le, by rw [← hl.ghost]; exact h1.gho, h1.rel, h1.size, fun r hr hno => h1.keep r hr fun ho => hno ?_, fun r hr => ?_, h1.tape, h1.os, h1.output⟩
    · obtain ⟨b, o, hb, hN, hx⟩ := ho
      exact ⟨b, o, hl.h b o hb, hN, hx⟩
    · rcases h1.own r hr with ho | ho
      · obtain ⟨b, o, hb, hN, hx⟩ := ho
        exact .inl ⟨b, o, hl.h b o hb, hN, hx⟩
      · exact .inr ho
  | q + 1, s, s1, h, s2, hl, h2 => by
    simp only [iterN] at h
    split at h <;> try (cases h; done)
    rename_i s' hrun
    have ih := triL_iterN hZ hG hnt hc q s' s1 h s2 hl h2
    exact triL_cons (tri_run hZ hnt (by rw [hG]; exact hc) hrun rfl ⟨fun _ _ h => h, fun _ _ h => h, rfl, rfl, rfl⟩) ih
theorem triL_rounds (hZ : TOk Z p) (hG : p.G = 7) (hnt : nt ≤ 2 ^ 30) {q : Nat} (h : roundsB Z fuel k nt q c s l = true) {s3 : St} (h2 : TriL p n nt c l.st ex s3) : TriL p n nt c s ex s3 := by
  simp only [roundsB, Bool.and_eq_true] at h
  obtain ⟨hc, h⟩ := h
  split at h
  · rename_i s1 hrun
    exact triL_iterN hZ hG hnt hc q s s1 hrun _ (less_of h) h2
  · cases h
end

/-- A closed function, out of its pieces. -/
theorem closed_tri [Shift] {p : Par} {Z : Tab} (hZ : TOk Z p) {f : FuncId} {fn : Func} {c : Code} {H : Heap} {l : LSt} {e : Env} {w : World} (hfn : Z.fn f = some fn) (hb : fn.body = some c) (h : Tri p 0 fn.ntmps c ⟨.e, H, []⟩ .ret l.st)
    (hres : resultsOf Z l.st.h l.st.T fn.results.toList = some (.bool true)) (hR : Rel p e H w) (hB : p.B = w.heap.size) :
    Calls p.P f #[] w fun en w' => en = .returned (.bool true) ∧ Go.RowKit.Below w.heap.size w w' := by
  obtain ⟨hP, ⟨c', hc', hcok, hnt⟩, _⟩ := hZ.fn f fn hfn
  have hS : SRel p e fn.ntmps ⟨.e, H, []⟩ { tmps := #[] ++ Array.replicate (fn.ntmps - (#[] : Array Value).size) undef, defers := [] } w :=
    SRel.enter (args := []) hR (by simp) (nt := fn.ntmps) (by simp) hnt
  refine callsIn_wide.1 (callsIn_of_wp_marks (F := FR none) hP hb trivial (wpIn_mono (h e w _ hS) ?_))
  rintro E a1 w1 ⟨e1, hst, hS1, hE⟩
  cases hE
  show LeavesInM (FR none) 0 p.P fn a1.tmps _ a1.defers .returning w1
  rw [hS1.defs]
  exact ⟨_, (results_sound hZ hS1.rel hS1.tmps hS1.tund hres).1, by simp, hst.below hB hR⟩
end Go.Eng
