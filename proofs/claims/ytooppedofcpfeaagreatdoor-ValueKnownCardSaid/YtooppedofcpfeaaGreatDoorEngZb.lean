/- A long walk, in pieces: from one state that is written out to the next one. -/
import Derived.Test.YtooppedofcpfeaaGreatDoorEngZ
set_option linter.all false
namespace Go.Eng
variable [Shift]
variable {p : Par} {e e' e'' : Env} {H H' : Heap} {w w' w'' : World} {Z : Tab}

/-- What is known of a state, or less. -/
structure Less (s1 s : St) : Prop where
  T : ∀ t v, s.T.get t = some v → s1.T.get t = some v
  h : ∀ b o, s.h.get b = some o → s1.h.get b = some o
  next : s.h.next = s1.h.next
  ghost : s.h.ghost = s1.h.ghost
  ds : s.ds = s1.ds

theorem Rel.less (h : Rel p e H w) (hl : ∀ b o, H'.get b = some o → H.get b = some o) (hn : H'.next = H.next) (hg : H'.ghost = H.ghost) : Rel p e H' w := by
  have hD : H'.D = H.D := by funext b; simp only [Heap.D, hn, hg]
  refine ⟨fun b o hb => h.obj b o (hl b o hb), fun b o hb => by rw [hD]; exact h.und b o (hl b o hb), fun b o hb => by rw [hD]; exact h.lt b o (hl b o hb), fun b b' o o' hb hb' => h.inj b b' o o' (hl b o hb) (hl b' o' hb'), h.glo,
    fun b o hb => h.own b o (hl b o hb), h.siz, by rw [hn]; exact h.nxt, h.gn, by rw [hn]; exact h.sml, by rw [hg, hn]; exact h.gst, h.fix, fun b hb => ⟨(h.sft b hb).1, (h.sft b hb).2.1, ?_⟩⟩
  cases hx : H'.get b with
  | none => rfl
  | some o =>
    have := hl b o hx
    rw [(h.sft b hb).2.2] at this
    cases this
theorem Step.less (h : Step p e H w e' H' w') {H2 : Heap} (hl : ∀ b o, H2.get b = some o → H'.get b = some o) (hn : H2.next = H'.next) (hg : H2.ghost = H'.ghost) : Step p e H w e' H2 w' where
  agree := h.agree
  le := by rw [hn]; exact h.le
  gho := hg.trans h.gho
  rel := h.rel.less hl hn hg
  size := h.size
  keep := h.keep
  own r hr := by
    obtain ⟨b, o, hb, hN, hx⟩ := hr
    exact h.own r ⟨b, o, hl b o hb, hN, hx⟩
  tape := h.tape
  os := h.os
  output := h.output
theorem SRel.less {nt : Nat} {s1 s : St} {a : Act} (h : SRel p e nt s1 a w) (hl : Less s1 s) : SRel p e nt s a w := by
  have hD : s.h.D = s1.h.D := by funext b; simp only [Heap.D, hl.next, hl.ghost]
  refine ⟨h.rel.less hl.h hl.next hl.ghost, ⟨h.tmps.1, fun t v hv => h.tmps.2 t v (hl.T t v hv)⟩, fun t v hv => by rw [hD]; exact h.tund t v (hl.T t v hv), by rw [hl.ds]; exact h.defs, fun d hd => by rw [hD]; rw [hl.ds] at hd; exact h.dund d hd⟩

/-- From a state to another one, by a piece of code. -/
def Tri (p : Par) (n nt : Nat) (c : Code) (s : St) (ex : Ex) (s' : St) : Prop :=
  ∀ (e : Env) (w : World) (a : Act), SRel p e nt s a w → c.wpIn (FR none) n p.P (Post p e s.h w nt ex s') a w

def exOk : Ex → Bool | .panic _ => false | _ => true

theorem Post.less {nt : Nat} {ex : Ex} {s1 s : St} {E : Exit} {a' : Act} (h : Post p e H w nt ex s1 E a' w') (hx : exOk ex = true) (hl : Less s1 s) : Post p e H w nt ex s E a' w' := by
  obtain ⟨e1, h1, h2, h3⟩ := h
  refine ⟨e1, h1.less hl.h hl.next hl.ghost, h2.less hl, ?_⟩
  cases ex with
  | panic v => cases hx
  | _ => exact h3

theorem tri_run (hZ : TOk Z p) {fuel k fid n nt : Nat} (hnt : nt ≤ 2 ^ 30) {c : Code} (hc : cOk p.G nt c = true) {s s1 s' : St} {ex : Ex} (h : run Z fuel (calls Z fuel k) ⟨fid, nt, false⟩ c s = some (ex, s1)) (hx : exOk ex = true) (hl : Less s1 s') :
    Tri p n nt c s ex s' := by
  intro e w a hS
  have hC := calls_ok (p := p) hZ (fuel := fuel) k
  refine wpIn_mono (run_sound (r := none) (x := ⟨fid, nt, false⟩) hZ hC (stepD_sound hZ hC) (rangeFunc_sound hZ hC) hnt rfl c s s1 ex e w a hS hc h) ?_
  intro E a1 w1 hp
  exact hp.less hx hl

theorem tri_seq {n nt : Nat} {c1 c2 : Code} {s s1 s2 : St} {ex : Ex} (h1 : Tri p n nt c1 s .normal s1) (h2 : Tri p n nt c2 s1 ex s2) : Tri p n nt (.seq c1 c2) s ex s2 := by
  intro e w a hS
  refine wpIn_seq (wpIn_mono (h1 e w a hS) ?_)
  intro E a1 w1 hp
  refine exThen hp ?_ (fun hne => absurd rfl hne)
  intro _ e1 hst hS1
  exact wpIn_mono (h2 e1 w1 a1 hS1) fun _ _ _ hq => hq.pre hst

theorem tri_block {n nt id : Nat} {c : Code} {s s1 : St} (h : Tri p n nt c s (.exit id) s1) : Tri p n nt (.block id c) s .normal s1 := by
  intro e w a hS
  refine wpIn_block (wpIn_mono (h e w a hS) ?_)
  rintro E a1 w1 ⟨e1, hst, hS1, hE⟩
  cases hE
  simp only [Exit.inBlock, if_true]
  exact ⟨e1, hst, hS1, rfl⟩
theorem tri_block_n {n nt id : Nat} {c : Code} {s s1 : St} (h : Tri p n nt c s .normal s1) : Tri p n nt (.block id c) s .normal s1 := by
  intro e w a hS
  refine wpIn_block (wpIn_mono (h e w a hS) ?_)
  rintro E a1 w1 ⟨e1, hst, hS1, hE⟩
  cases hE
  exact ⟨e1, hst, hS1, rfl⟩
theorem tri_block_ret {n nt id : Nat} {c : Code} {s s1 : St} (h : Tri p n nt c s .ret s1) : Tri p n nt (.block id c) s .ret s1 := by
  intro e w a hS
  refine wpIn_block (wpIn_mono (h e w a hS) ?_)
  rintro E a1 w1 ⟨e1, hst, hS1, hE⟩
  cases hE
  exact ⟨e1, hst, hS1, rfl⟩

/-- A loop, round by round. -/
def TriL (p : Par) (n nt : Nat) (c : Code) (s : St) (ex : Ex) (s' : St) : Prop :=
  ∃ m, ∀ (e : Env) (w : World) (a : Act), SRel p e nt s a w → Code.roundsIn (FR none) n p.P c (Post p e s.h w nt ex s') m a w
theorem triL_cons {n nt : Nat} {c : Code} {s s1 s2 : St} {ex : Ex} (h1 : Tri p n nt c s .normal s1) (h2 : TriL p n nt c s1 ex s2) : TriL p n nt c s ex s2 := by
  obtain ⟨m, hm⟩ := h2
  refine ⟨m + 1, fun e w a hS => ?_⟩
  simp only [Code.roundsIn]
  refine wpIn_mono (h1 e w a hS) ?_
  intro E a1 w1 hp
  refine exThen hp ?_ (fun hne => absurd rfl hne)
  intro _ e1 hst hS1
  exact roundsIn_mono (fun _ _ _ hq => hq.pre hst) _ _ _ (hm e1 w1 a1 hS1)
theorem triL_iter (hZ : TOk Z p) {fuel k fid n nt : Nat} (hnt : nt ≤ 2 ^ 30) {c : Code} (hc : cOk p.G nt c = true) {s s1 s' : St} {ex : Ex} (q : Nat) (h : iter (run Z fuel (calls Z fuel k) ⟨fid, nt, false⟩ c) q s = some (ex, s1)) (hx : exOk ex = true) (hl : Less s1 s') :
    TriL p n nt c s ex s' := by
  have hC := calls_ok (p := p) hZ (fuel := fuel) k
  refine ⟨q, fun e w a hS => roundsIn_mono (fun _ _ _ hp => hp.less hx hl) _ _ _ (iter_sound (fun s s' ex e w a hS h => run_sound (r := none) (x := ⟨fid, nt, false⟩) hZ hC (stepD_sound hZ hC) (rangeFunc_sound hZ hC) hnt rfl c s s' ex e w a hS hc h) q s s1 ex e w a hS h)⟩
theorem tri_loop {n nt : Nat} {c : Code} {s s1 : St} {ex : Ex} (h : TriL p n nt c s ex s1) : Tri p n nt (.loop c) s ex s1 := by
  obtain ⟨m, hm⟩ := h
  intro e w a hS
  exact wpIn_loop_rounds m (hm e w a hS)
end Go.Eng
