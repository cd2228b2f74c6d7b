/- Code: what the evaluator follows, the machine does. -/
import Derived.Test.YtooppedofcpfeaaGreatDoorEngM
import Derived.LoopNIn
import Derived.TacticsIn
set_option linter.all false
namespace Go.Eng
variable [Shift]
variable {p : Par} {e e' e'' : Env} {H H' : Heap} {w w' w'' : World} {Z : Tab}

/-- How a piece of code is left. -/
def Post (p : Par) (e : Env) (H : Heap) (w : World) (nt : Nat) (ex : Ex) (s' : St) (E : Exit) (a' : Act) (w' : World) : Prop :=
  ∃ e', Step p e H w e' s'.h w' ∧ SRel p e' nt s' a' w' ∧
    match ex with
    | .normal => E = .normal
    | .exit i => E = .exit i
    | .ret => E = .ret
    | .panic v => E = .panic [{ v := ren e' v, recovered := false }] ∧ Und s'.h.D v

theorem Post.pre {nt : Nat} {ex : Ex} {s' : St} {E : Exit} {a' : Act} {w1 : World} {e1 : Env} {H1 : Heap} (hs : Step p e H w e1 H1 w1) (h : Post p e1 H1 w1 nt ex s' E a' w') : Post p e H w nt ex s' E a' w' := by
  obtain ⟨e2, h1, h2, h3⟩ := h
  exact ⟨e2, hs.trans h1, h2, h3⟩

/-- What is asked of regions that draw. -/
def DOk (Z : Tab) (p : Par) (C : Calls3) : Prop := ∀ (r : Option Nat) (nt n id : Nat) (ops : Array Oper) (s s' : St) (ex : Ex) (e : Env) (w : World) (a : Act),
  nt ≤ 2 ^ 30 → SRel p e nt s a w → (∀ o ∈ ops.toList, opOk p.G nt o = true) → stepD Z C r.isSome ops s = some (ex, s') →
  (Code.region id ops true).wpIn (FR r) n p.P (Post p e s.h w nt ex s') a w

theorem roundsIn_mono {F : Fence} {n : Nat} {P : Program} {c : Code} {Q Q' : Exit → Act → World → Prop} (hq : ∀ e a w, Q e a w → Q' e a w) :
    ∀ (m : Nat) (a : Act) (w : World), Code.roundsIn F n P c Q m a w → Code.roundsIn F n P c Q' m a w
  | 0, _, _, h => h
  | m + 1, a, w, h => by
    simp only [Code.roundsIn] at h ⊢
    refine wpIn_mono h ?_
    intro E a1 w1 hp
    cases E with
    | normal => exact roundsIn_mono hq m a1 w1 hp
    | _ => exact hq _ _ _ hp

theorem iter_sound {F : Fence} {n nt : Nat} {c : Code} {f : St → Option (Ex × St)}
    (hf : ∀ s s' ex e w a, SRel p e nt s a w → f s = some (ex, s') → c.wpIn F n p.P (Post p e s.h w nt ex s') a w) :
    ∀ (k : Nat) (s s' : St) (ex : Ex) (e : Env) (w : World) (a : Act), SRel p e nt s a w → iter f k s = some (ex, s') → Code.roundsIn F n p.P c (Post p e s.h w nt ex s') k a w := by
  intro k
  induction k with
  | zero => intro s s' ex e w a hS h; cases h
  | succ k ih =>
    intro s s' ex e w a hS h
    simp only [iter] at h
    cases h1 : f s with
    | none => rw [h1] at h; cases h
    | some res =>
      obtain ⟨ex1, s1⟩ := res
      rw [h1] at h
      simp only [Code.roundsIn]
      refine wpIn_mono (hf s s1 ex1 e w a hS h1) ?_
      rintro E a1 w1 ⟨e1, hst, hS1, hE⟩
      cases ex1 with
      | normal =>
        cases hE
        exact roundsIn_mono (fun _ _ _ hp => hp.pre hst) _ _ _ (ih s1 s' ex e1 w1 a1 hS1 h)
      | exit i => cases hE; cases h; exact ⟨e1, hst, hS1, rfl⟩
      | ret => cases hE; cases h; exact ⟨e1, hst, hS1, rfl⟩
      | panic v =>
        obtain ⟨rfl, hu⟩ := hE
        cases h; exact ⟨e1, hst, hS1, rfl, hu⟩

/-- A scope of which no jump leads back into it. -/
theorem wpIn_scope {F : Fence} {n : Nat} {P : Program} {a : Act} {c : Code} {Q : Exit → Act → World → Prop} (h : c.wpIn F n P (fun | .goto _, _, _ => False | E, a, w => Q E a w) a w) : (Code.scope c).wpIn F n P Q a w := by
  intro b k cs hro hb hr
  have st : step P (lone (b.atR a (.code (.scope c) :: k)) cs w) = .next (lone (b.atR a (.code c :: .inScope c :: k)) cs w) := step_lone_go (by simp [stepG, stepG.exec, Frame.atR])
  have st2 : ∀ a w, step P (lone (b.atR a (.inScope c :: k)) cs w) = .next (lone (b.atR a k) cs w) := fun a w => step_lone_go (by simp [stepG, stepG.exec, Frame.atR])
  have h0 : (lone (b.atR a (.code (.scope c) :: k)) cs w).fenced P F := fenced_calm hb hr rfl
  obtain ⟨E, a₁, w₁, hq, harr⟩ := h b (.inScope c :: k) cs hro hb hr
  cases E with
  | normal => exact ⟨.normal, a₁, w₁, hq, .head h0 st (StepsIn.trans harr (.one (fenced_calm hb hr rfl) (st2 _ _)))⟩
  | exit id =>
    have hx : exitTo id (.inScope c :: k) = exitTo id k := by simp [exitTo]
    exact ⟨.exit id, a₁, w₁, hq, fun k' hk => .head h0 st (harr.1 k' (by rw [hx]; exact hk)),
        fun hr' hk => let ⟨k₁, h1, h2⟩ := harr.2 hr' (by rw [hx]; exact hk); ⟨k₁, h1, .head h0 st h2⟩⟩
  | goto l => exact hq.elim
  | ret => exact ⟨_, a₁, w₁, hq, .of_steps (.one h0 st) harr⟩
  | panic ch => exact ⟨_, a₁, w₁, hq, .of_steps (.one h0 st) harr⟩
  | outgrown => exact ⟨_, a₁, w₁, hq, .of_steps (.one h0 st) harr⟩

theorem exThen {Q : Exit → Act → World → Prop} {next : Act → World → Prop} {nt : Nat} {ex : Ex} {s1 : St} {E : Exit} {a1 : Act} {w1 : World} (hp : Post p e H w nt ex s1 E a1 w1)
    (hn : ex = .normal → ∀ e1, Step p e H w e1 s1.h w1 → SRel p e1 nt s1 a1 w1 → next a1 w1) (hq : ex ≠ .normal → Q E a1 w1) : Exit.then next Q E a1 w1 := by
  obtain ⟨e1, hst, hS1, hE⟩ := hp
  cases ex with
  | normal => cases hE; exact hn rfl e1 hst hS1
  | exit i => cases hE; exact hq (by simp)
  | ret => cases hE; exact hq (by simp)
  | panic v => obtain ⟨rfl, hu⟩ := hE; exact hq (by simp)

theorem ev_bool {nt : Nat} {s : St} {a : Act} (hS : SRel p e nt s a w) {c : Operand} {t : Bool} (hc : operandOk p.G c = true) (h : ev s.T c = .bool t) : a.eval c = .bool t := by
  have := (hS.erel c hc (by rw [h]; rfl)).1
  rw [this, h, ren_bool]

theorem stepL_region {C : Calls3} (hZ : TOk Z p) (hC : COk p C) {r : Option Nat} {nt n id : Nat} {ops : Array Oper} {s s' : St} {ex : Ex} {a : Act} (hnt : nt ≤ 2 ^ 30) (hS : SRel p e nt s a w)
    (hok : ∀ o ∈ ops.toList, opOk p.G nt o = true) (h : stepL Z C r.isSome ops ops.toList s = some (ex, s')) :
    (Code.region id ops false).wpIn (FR r) n p.P (Post p e s.h w nt ex s') a w := by
  refine wpIn_region ?_
  rw [List.range_eq_range', ← Array.length_toList]
  refine stepL_sound hZ hC rfl hnt ops.toList 0 s s' ex a e w (fun k => by simp) hok hS h ?_ ?_
  · rintro rfl e1 a1 w1 hst hS1
    exact ⟨e1, hst, hS1, rfl⟩
  · rintro v rfl e1 a1 w1 hst hS1 hu
    exact ⟨e1, hst, hS1, rfl, hu⟩

/-- What is asked of a statement that ranges over a function. -/
def ROk (Z : Tab) (p : Par) (fuel : Nat) (C : Calls3) : Prop := ∀ (fid : FuncId) (nt n : Nat) (g : Operand) (ps : Array Tmp) (assign body : Code) (s s' : St) (ex : Ex) (e : Env) (w : World) (a : Act),
  nt ≤ 2 ^ 30 → SRel p e nt s a w → cOk p.G nt (.rangeFunc g ps assign body) = true → run Z fuel C ⟨fid, nt, false⟩ (.rangeFunc g ps assign body) s = some (ex, s') →
  (Code.rangeFunc g ps assign body).wpIn (FR none) n p.P (Post p e s.h w nt ex s') a w

theorem run_sound {fuel : Nat} {C : Calls3} (hZ : TOk Z p) (hC : COk p C) (hD : DOk Z p C) (hR : ROk Z p fuel C) {x : Ctx} (hnt : x.nt ≤ 2 ^ 30) {r : Option Nat} (hr : x.round = r.isSome) {n : Nat} (c : Code) :
    ∀ (s s' : St) (ex : Ex) (e : Env) (w : World) (a : Act), SRel p e x.nt s a w → cOk p.G x.nt c = true → run Z fuel C x c s = some (ex, s') →
      c.wpIn (FR r) n p.P (Post p e s.h w x.nt ex s') a w := by
  induction c with
  | skip => intro s s' ex e w a hS _ h; cases h; exact wpIn_skip ⟨e, .refl hS.rel, hS, rfl⟩
  | label l => intro s s' ex e w a hS _ h; cases h; exact wpIn_label ⟨e, .refl hS.rel, hS, rfl⟩
  | exit i => intro s s' ex e w a hS _ h; cases h; exact wpIn_exit ⟨e, .refl hS.rel, hS, rfl⟩
  | ret => intro s s' ex e w a hS _ h; cases h; exact wpIn_ret ⟨e, .refl hS.rel, hS, rfl⟩
  | goto l => intro s s' ex e w a hS _ h; cases h
  | scope c ih =>
    intro s s' ex e w a hS hok h
    simp only [cOk] at hok
    simp only [run] at h
    refine wpIn_scope (wpIn_mono (ih s s' ex e w a hS hok h) ?_)
    intro E a1 w1 hp
    have hE := hp
    obtain ⟨e1, _, _, hE⟩ := hE
    cases E with
    | goto l => cases ex <;> simp at hE
    | _ => exact hp
  | refuse y => intro s s' ex e w a hS _ h; cases h
  | region id ops draw =>
    intro s s' ex e w a hS hok h
    simp only [cOk, List.all_eq_true] at hok
    simp only [run, hr] at h
    cases draw with
    | true => exact hD r x.nt n id ops s s' ex e w a hnt hS hok h
    | false => exact stepL_region hZ hC hnt hS hok h
  | seq c1 c2 ih1 ih2 =>
    intro s s' ex e w a hS hok h
    simp only [cOk, Bool.and_eq_true] at hok
    simp only [run] at h
    cases h1 : run Z fuel C x c1 s with
    | none => rw [h1] at h; cases h
    | some res =>
      obtain ⟨ex1, s1⟩ := res
      rw [h1] at h
      refine wpIn_seq (wpIn_mono (ih1 s s1 ex1 e w a hS hok.1 h1) ?_)
      intro E a1 w1 hp
      refine exThen hp ?_ ?_
      · rintro rfl e1 hst hS1
        exact wpIn_mono (ih2 s1 s' ex e1 w1 a1 hS1 hok.2 h) fun _ _ _ hq => hq.pre hst
      · intro hne
        have : ex1 = ex ∧ s1 = s' := by cases ex1 <;> first | exact (hne rfl).elim | (cases h; exact ⟨rfl, rfl⟩)
        obtain ⟨rfl, rfl⟩ := this
        exact hp
  | cond c c1 c2 ih1 ih2 =>
    intro s s' ex e w a hS hok h
    simp only [cOk, Bool.and_eq_true] at hok
    simp only [run] at h
    split at h
    · rename_i t ht
      refine wpIn_cond (ev_bool hS hok.1.1 ht) ?_
      cases t with
      | true => exact ih1 s s' ex e w a hS hok.1.2 h
      | false => exact ih2 s s' ex e w a hS hok.2 h
    · cases h
  | block id c ih =>
    intro s s' ex e w a hS hok h
    simp only [cOk] at hok
    simp only [run] at h
    cases h1 : run Z fuel C x c s with
    | none => rw [h1] at h; cases h
    | some res =>
      obtain ⟨ex1, s1⟩ := res
      rw [h1] at h
      refine wpIn_block (wpIn_mono (ih s s1 ex1 e w a hS hok h1) ?_)
      rintro E a1 w1 ⟨e1, hst, hS1, hE⟩
      cases ex1 with
      | normal => cases hE; cases h; exact ⟨e1, hst, hS1, rfl⟩
      | exit i =>
        cases hE
        simp only at h
        simp only [Exit.inBlock]
        split at h
        · rename_i hi; cases h; rw [if_pos hi]; exact ⟨e1, hst, hS1, rfl⟩
        · rename_i hi; cases h; rw [if_neg hi]; exact ⟨e1, hst, hS1, rfl⟩
      | ret => cases hE; cases h; exact ⟨e1, hst, hS1, rfl⟩
      | panic v => obtain ⟨rfl, hu⟩ := hE; cases h; exact ⟨e1, hst, hS1, rfl, hu⟩
  | loop c ih =>
    intro s s' ex e w a hS hok h
    simp only [cOk] at hok
    simp only [run] at h
    exact wpIn_loop_rounds fuel (iter_sound (fun s s' ex e w a hS h => ih s s' ex e w a hS hok h) fuel s s' ex e w a hS h)
  | rangeFunc g ps c1 c2 ih1 ih2 =>
    intro s s' ex e w a hS hok h
    obtain ⟨fid, nt, rd⟩ := x
    cases rd with
    | true => simp [run] at h
    | false =>
      have : r = none := by cases r <;> simp_all
      subst this
      exact hR fid nt n g ps c1 c2 s s' ex e w a hnt hS hok h
end Go.Eng
