/- The seven types, as they lie: what the evaluator says of Kinds. -/
import Derived.Test.YtlbnfokedkpccaaGreatOrdi
import Derived.Test.YtlbnfokedkpccaaGreatKSeatP1
import Derived.Test.YtlbnfokedkpccaaGreatSeat3
set_option linter.all false
set_option maxRecDepth 100000
namespace Go.Proofs.YtlbnfokedkpccaaGreat
open Go.Eng Go.RowKit
theorem Kwalk [Shift] (B : Nat) : Tri (par B) 0 Tryz.f48.ntmps bodyK48 ⟨.e, h0, []⟩ .ret KL1.st :=
  (tri_piece (zok B) rfl (by decide) Kp1)
theorem KfnA : Zt.fn 48 = some Tryz.f48 := by kernel_rfl
theorem KresA : resultsOf Zt KL1.st.h KL1.st.T Tryz.f48.results.toList = some (.slice (some ⟨15, 0, none⟩) 7 7) := by kernel_rfl
/-- A closed call's value, and the memory that it makes. -/
theorem closed_val [Shift] {p : Par} {Z : Tab} (hZ : TOk Z p) {f : FuncId} {fn : Func} {c : Code} {H : Heap} {l : LSt} {e : Env} {w : World} {v : Value} (hfn : Z.fn f = some fn) (hb : fn.body = some c) (h : Tri p 0 fn.ntmps c ⟨.e, H, []⟩ .ret l.st)
    (hres : resultsOf Z l.st.h l.st.T fn.results.toList = some v) (hR : Rel p e H w) (hB : p.B = w.heap.size) :
    Calls p.P f #[] w fun en w' => ∃ e', en = .returned (ren e' v) ∧ Rel p e' l.st.h w' ∧ Go.RowKit.Below w.heap.size w w' := by
  obtain ⟨hP, ⟨c', hc', hcok, hnt⟩, _⟩ := hZ.fn f fn hfn
  have hS : SRel p e fn.ntmps ⟨.e, H, []⟩ { tmps := #[] ++ Array.replicate (fn.ntmps - (#[] : Array Value).size) undef, defers := [] } w :=
    SRel.enter (args := []) hR (by simp) (nt := fn.ntmps) (by simp) hnt
  refine callsIn_wide.1 (callsIn_of_wp_marks (F := FR none) hP hb trivial (wpIn_mono (h e w _ hS) ?_))
  rintro E a1 w1 ⟨e1, hst, hS1, hE⟩
  cases hE
  show LeavesInM (FR none) 0 p.P fn a1.tmps _ a1.defers .returning w1
  rw [hS1.defs]
  exact ⟨_, (results_sound hZ hS1.rel hS1.tmps hS1.tund hres).1, e1, rfl, hS1.rel, hst.below hB hR⟩
theorem row_of [Shift] {p : Par} {e : Env} {H : Heap} {w : World} (hR : Rel p e H w) {b : Nat} {c : List Value} {el : TypeId} {fz : Nat × Nat} (h : H.get b = some (.cells c el fz false)) : ∀ j v, c[j]? = some v → w.cell? ⟨e.ρ b, j, none⟩ = some (ren e v) := by
  intro j v hj
  obtain ⟨r, hr, tail, el', fz', rfl, ht, _⟩ := hR.obj b _ h
  obtain ⟨rfl, _⟩ := ht rfl
  simp [World.cell?, hr, hj]
def kK : List Value := [.int .i64 2, .slice (some ⟨5, 0, none⟩) 2 2, .int .i64 2, .slice (some ⟨8, 0, none⟩) 2 2, .int .i64 0, .slice none 0 0, .int .i64 2, .slice (some ⟨10, 0, none⟩) 3 3, .int .i64 3, .slice (some ⟨3, 0, none⟩) 2 2, .int .i64 2, .slice (some ⟨12, 0, none⟩) 2 2, .int .i64 1, .slice none 0 0]
theorem kget15 : KL1.st.h.get 15 = some (.cells kK 36 (0, 0) false) := by kernel_rfl
theorem kget5 : KL1.st.h.get 5 = some (.cells [.int .i64 0, .slice none 0 0, .int .i64 0, .slice none 0 0] 36 (0, 0) false) := by kernel_rfl
theorem kget8 : KL1.st.h.get 8 = some (.cells [.int .i64 0, .slice none 0 0, .int .i64 1, .slice none 0 0] 36 (0, 0) false) := by kernel_rfl
theorem kget10 : KL1.st.h.get 10 = some (.cells [.int .i64 0, .slice none 0 0, .int .i64 0, .slice none 0 0, .int .i64 0, .slice none 0 0] 36 (0, 0) false) := by kernel_rfl
theorem kget3 : KL1.st.h.get 3 = some (.cells [.int .i64 0, .slice none 0 0, .int .i64 1, .slice none 0 0] 36 (0, 0) false) := by kernel_rfl
theorem kget12 : KL1.st.h.get 12 = some (.cells [.int .i64 0, .slice none 0 0, .int .i64 3, .slice (some ⟨3, 0, none⟩) 2 2] 36 (0, 0) false) := by kernel_rfl

def tI : TT := .mk 0 none 0 0 []
def tS : TT := .mk 1 none 0 0 []
def tU (r3 : Nat) : TT := .mk 3 (some ⟨r3, 0, none⟩) 2 2 [tI, tS]
def kindsT (r5 r8 r10 r3 r12 : Nat) : List TT := [.mk 2 (some ⟨r5, 0, none⟩) 2 2 [tI, tI], .mk 2 (some ⟨r8, 0, none⟩) 2 2 [tI, tS], tI, .mk 2 (some ⟨r10, 0, none⟩) 3 3 [tI, tI, tI], tU r3, .mk 2 (some ⟨r12, 0, none⟩) 2 2 [tI, tU r3], tS]
theorem tI_fit (d : Nat) : tI.fit (d + 1) := .int d _ _
theorem tS_fit (d : Nat) : tS.fit (d + 1) := .text d _ _
theorem tU_fit (d : Nat) (r : Nat) : (tU r).fit (d + 2) := .sum _ _ _ _ _ (by simp) (by simp) (fun c hc => by
  simp only [List.mem_cons, List.not_mem_nil, or_false] at hc
  rcases hc with rfl | rfl
  · exact tI_fit d
  · exact tS_fit d)
theorem kinds_fit (r5 r8 r10 r3 r12 : Nat) : ∀ c ∈ kindsT r5 r8 r10 r3 r12, c.fit 3 := by
  intro c hc
  simp only [kindsT, List.mem_cons, List.not_mem_nil, or_false] at hc
  rcases hc with rfl | rfl | rfl | rfl | rfl | rfl | rfl
  · exact .tuple _ _ _ _ _ (by simp) (by simp) (fun c hc => by simp at hc; subst hc; exact tI_fit 1)
  · refine .tuple _ _ _ _ _ (by simp) (by simp) (fun c hc => ?_)
    simp only [List.mem_cons, List.not_mem_nil, or_false] at hc
    rcases hc with rfl | rfl
    · exact tI_fit 1
    · exact tS_fit 1
  · exact tI_fit 2
  · exact .tuple _ _ _ _ _ (by simp) (by simp) (fun c hc => by simp at hc; subst hc; exact tI_fit 1)
  · exact tU_fit 1 _
  · refine .tuple _ _ _ _ _ (by simp) (by simp) (fun c hc => ?_)
    simp only [List.mem_cons, List.not_mem_nil, or_false] at hc
    rcases hc with rfl | rfl
    · exact tI_fit 1
    · exact tU_fit 0 _
  · exact tS_fit 2
theorem tI_is (S : Nat → Prop) (W : World) : IsTT S W tI := .mk _ _ _ _ _ rfl (by omega) (fun i c h => by simp at h) (fun c h => by simp at h)
theorem tS_is (S : Nat → Prop) (W : World) : IsTT S W tS := .mk _ _ _ _ _ rfl (by omega) (fun i c h => by simp at h) (fun c h => by simp at h)
/-- A type of parts that lie in one row. -/
theorem row_is {S : Nat → Prop} {W : World} (k : Int) (r n : Nat) (l : List TT) (hn : n = l.length) (hm : n ≤ 1000) (hS : S r) (hc : ∀ (i : Nat) (c : TT), l[i]? = some c → W.cell? ⟨r, i * 2, none⟩ = some (.int .i64 c.k) ∧ W.cell? ⟨r, i * 2 + 1, none⟩ = some c.row) (hk : ∀ c ∈ l, IsTT S W c) :
    IsTT S W (.mk k (some ⟨r, 0, none⟩) n n l) :=
  .mk _ _ _ _ _ hn hm (fun i c hi => ⟨r, rfl, hS, hc i c hi⟩) hk

/-- What Kinds answers: seven types, in a row of its own. -/
def KindsR (W : World) (en : Ending) (w' : World) : Prop :=
  ∃ (g : Nat) (Ts : List TT), en = .returned (.slice (some ⟨g, 0, none⟩) 7 7) ∧ Ts.length = 7 ∧ W.heap.size ≤ g ∧ g < w'.heap.size ∧ Below W.heap.size W w' ∧
    ∀ (i : Nat) (c : TT), Ts[i]? = some c → w'.cell? ⟨g, i * 2, none⟩ = some (.int .i64 c.k) ∧ w'.cell? ⟨g, i * 2 + 1, none⟩ = some c.row ∧ IsTT (fun b => W.heap.size ≤ b ∧ b < w'.heap.size) w' c ∧ c.fit 3
theorem Kinds_any (W : World) (h : LaidCells W) : Calls Tryz.prog 48 #[] W (KindsR W) := by
  obtain ⟨sh, e, hR⟩ := start_of h
  refine (closed_val (p := par W.heap.size) (l := KL1) (zok W.heap.size) KfnA bodyK48_eq (Kwalk W.heap.size) KresA hR rfl).mono ?_
  rintro en w' ⟨e', rfl, hR', hb⟩
  have ad : ∀ b : Nat, e'.addr ⟨b, 0, none⟩ = ⟨e'.ρ b, 0, none⟩ := fun b => hR'.addrN e' (Nat.zero_le _)
  have lo : ∀ {b : Nat} {o : AObj}, KL1.st.h.get b = some o → W.heap.size ≤ e'.ρ b ∧ e'.ρ b < w'.heap.size := fun {b o} hb' => by
    refine ⟨hR'.own b o hb' (Nat.zero_le _), ?_⟩
    obtain ⟨r, hr, _⟩ := hR'.obj b o hb'
    exact (Array.getElem?_eq_some_iff.1 hr).1
  have c15 := row_of hR' kget15
  have c5 := row_of hR' kget5
  have c8 := row_of hR' kget8
  have c10 := row_of hR' kget10
  have c3 := row_of hR' kget3
  have c12 := row_of hR' kget12
  have sg : ∀ {b : Nat} {c : List Value} {el : TypeId} {fz : Nat × Nat}, KL1.st.h.get b = some (.cells c el fz false) → e'.σ b = 0 := fun {b c el fz} hb' => by
    obtain ⟨r, hr, tail, el', fz', rfl, ht, _⟩ := hR'.obj b _ hb'
    exact (ht rfl).2
  have ri : ∀ n : Int, ren e' (.int .i64 n) = .int .i64 n := fun n => by simp [ren]
  have rn : ren e' (.slice none 0 0) = .slice none 0 0 := by simp [ren]
  have rs : ∀ (b n : Nat), e'.σ b = 0 → ren e' (.slice (some ⟨b, 0, none⟩) n n) = .slice (some ⟨e'.ρ b, 0, none⟩) n n := fun b n hs => by simp [ren, ad, hs]
  have hU : IsTT (fun b => W.heap.size ≤ b ∧ b < w'.heap.size) w' (tU (e'.ρ 3)) := row_is 3 _ 2 [tI, tS] rfl (by omega) (lo kget3) (fun i c hi => by
    rcases i with _ | _ | i
    · simp at hi; subst hi; exact ⟨(c3 0 _ rfl).trans (by rw [ri]; rfl), (c3 1 _ rfl).trans (by rw [rn]; rfl)⟩
    · simp at hi; subst hi; exact ⟨(c3 2 _ rfl).trans (by rw [ri]; rfl), (c3 3 _ rfl).trans (by rw [rn]; rfl)⟩
    · simp at hi) (fun c hc => by
      simp only [List.mem_cons, List.not_mem_nil, or_false] at hc
      rcases hc with rfl | rfl
      · exact tI_is _ _
      · exact tS_is _ _)
  have aU : ren e' (.slice (some ⟨3, 0, none⟩) 2 2) = (tU (e'.ρ 3)).row := by rw [rs 3 _ (sg kget3)]; rfl
  refine ⟨e'.ρ 15, kindsT (e'.ρ 5) (e'.ρ 8) (e'.ρ 10) (e'.ρ 3) (e'.ρ 12), by rw [rs 15 _ (sg kget15)], rfl, (lo kget15).1, (lo kget15).2, hb, fun i c hi => ?_⟩
  have hf := kinds_fit _ _ _ _ _ c (List.mem_of_getElem? hi)
  rcases i with _ | _ | _ | _ | _ | _ | _ | i
  · simp only [kindsT, List.getElem?_cons_zero, Option.some.injEq] at hi
    subst hi
    refine ⟨(c15 0 _ rfl).trans (by rw [ri]; rfl), (c15 1 _ rfl).trans (by rw [rs 5 _ (sg kget5)]; rfl), row_is 2 _ 2 [tI, tI] rfl (by omega) (lo kget5) (fun i c hi => ?_) (fun c hc => by simp at hc; subst hc; exact tI_is _ _), hf⟩
    rcases i with _ | _ | i
    · simp at hi; subst hi; exact ⟨(c5 0 _ rfl).trans (by rw [ri]; rfl), (c5 1 _ rfl).trans (by rw [rn]; rfl)⟩
    · simp at hi; subst hi; exact ⟨(c5 2 _ rfl).trans (by rw [ri]; rfl), (c5 3 _ rfl).trans (by rw [rn]; rfl)⟩
    · simp at hi
  · simp only [kindsT, List.getElem?_cons_zero, List.getElem?_cons_succ, Option.some.injEq] at hi
    subst hi
    refine ⟨(c15 2 _ rfl).trans (by rw [ri]; rfl), (c15 3 _ rfl).trans (by rw [rs 8 _ (sg kget8)]; rfl), row_is 2 _ 2 [tI, tS] rfl (by omega) (lo kget8) (fun i c hi => ?_) (fun c hc => ?_), hf⟩
    · rcases i with _ | _ | i
      · simp at hi; subst hi; exact ⟨(c8 0 _ rfl).trans (by rw [ri]; rfl), (c8 1 _ rfl).trans (by rw [rn]; rfl)⟩
      · simp at hi; subst hi; exact ⟨(c8 2 _ rfl).trans (by rw [ri]; rfl), (c8 3 _ rfl).trans (by rw [rn]; rfl)⟩
      · simp at hi
    · simp only [List.mem_cons, List.not_mem_nil, or_false] at hc
      rcases hc with rfl | rfl
      · exact tI_is _ _
      · exact tS_is _ _
  · simp only [kindsT, List.getElem?_cons_zero, List.getElem?_cons_succ, Option.some.injEq] at hi
    subst hi
    exact ⟨(c15 4 _ rfl).trans (by rw [ri]; rfl), (c15 5 _ rfl).trans (by rw [rn]; rfl), tI_is _ _, hf⟩
  · simp only [kindsT, List.getElem?_cons_zero, List.getElem?_cons_succ, Option.some.injEq] at hi
    subst hi
    refine ⟨(c15 6 _ rfl).trans (by rw [ri]; rfl), (c15 7 _ rfl).trans (by rw [rs 10 _ (sg kget10)]; rfl), row_is 2 _ 3 [tI, tI, tI] rfl (by omega) (lo kget10) (fun i c hi => ?_) (fun c hc => by simp at hc; subst hc; exact tI_is _ _), hf⟩
    rcases i with _ | _ | _ | i
    · simp at hi; subst hi; exact ⟨(c10 0 _ rfl).trans (by rw [ri]; rfl), (c10 1 _ rfl).trans (by rw [rn]; rfl)⟩
    · simp at hi; subst hi; exact ⟨(c10 2 _ rfl).trans (by rw [ri]; rfl), (c10 3 _ rfl).trans (by rw [rn]; rfl)⟩
    · simp at hi; subst hi; exact ⟨(c10 4 _ rfl).trans (by rw [ri]; rfl), (c10 5 _ rfl).trans (by rw [rn]; rfl)⟩
    · simp at hi
  · simp only [kindsT, List.getElem?_cons_zero, List.getElem?_cons_succ, Option.some.injEq] at hi
    subst hi
    exact ⟨(c15 8 _ rfl).trans (by rw [ri]; rfl), (c15 9 _ rfl).trans (by rw [aU]), hU, hf⟩
  · simp only [kindsT, List.getElem?_cons_zero, List.getElem?_cons_succ, Option.some.injEq] at hi
    subst hi
    refine ⟨(c15 10 _ rfl).trans (by rw [ri]; rfl), (c15 11 _ rfl).trans (by rw [rs 12 _ (sg kget12)]; rfl), row_is 2 _ 2 [tI, tU (e'.ρ 3)] rfl (by omega) (lo kget12) (fun i c hi => ?_) (fun c hc => ?_), hf⟩
    · rcases i with _ | _ | i
      · simp at hi; subst hi; exact ⟨(c12 0 _ rfl).trans (by rw [ri]; rfl), (c12 1 _ rfl).trans (by rw [rn]; rfl)⟩
      · simp at hi; subst hi; exact ⟨(c12 2 _ rfl).trans (by rw [ri]; rfl), (c12 3 _ rfl).trans (by rw [aU])⟩
      · simp at hi
    · simp only [List.mem_cons, List.not_mem_nil, or_false] at hc
      rcases hc with rfl | rfl
      · exact tI_is _ _
      · exact hU
  · simp only [kindsT, List.getElem?_cons_zero, List.getElem?_cons_succ, Option.some.injEq] at hi
    subst hi
    exact ⟨(c15 12 _ rfl).trans (by rw [ri]; rfl), (c15 13 _ rfl).trans (by rw [rn]; rfl), tS_is _ _, hf⟩
  · simp [kindsT] at hi
end Go.Proofs.YtlbnfokedkpccaaGreat
