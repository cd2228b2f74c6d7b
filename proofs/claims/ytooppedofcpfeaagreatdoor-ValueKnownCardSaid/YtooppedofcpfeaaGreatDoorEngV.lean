/- A region that draws its order: one operation, in whatever order. -/
import Derived.Test.YtooppedofcpfeaaGreatDoorEngU
set_option linter.all false
namespace Go.Eng
variable [Shift]
variable {p : Par} {e e' e'' : Env} {H H' : Heap} {w w' w'' : World} {Z : Tab}

theorem Rel.bare (h : Rel p e H w) {n : Nat} {g : List Nat} (hn : p.N0 ≤ n) (hs : n + 1 < 2 ^ 40) (hg : ∀ b ∈ g, p.N0 ≤ b ∧ b < n) : Rel p e ⟨.e, n, g⟩ w := by
  have hget : ∀ b, Heap.get ⟨.e, n, g⟩ b = none := fun b => by simp [Heap.get, Tr.get]
  refine ⟨fun b o hb => ?_, fun b o hb => ?_, fun b o hb => ?_, fun b b' o o' hb => ?_, h.glo, fun b o hb => ?_, h.siz, hn, h.gn, hs, hg, h.fix, fun b hb => ⟨(h.sft b hb).1, (h.sft b hb).2.1, hget b⟩⟩
  all_goals rw [hget] at hb; cases hb

open Classical in
/-- A heap that says nothing but which numbers there are. -/
noncomputable def bareH (Hs : Nat → Heap) (Kd : Nat → Nat) (k : Nat) (L : Nat → Bool) (j x : Nat) : Heap :=
  ⟨.e, (Hs x).next, (List.range (Hs x).next).filter fun b => decide (¬ DL Hs Kd k L j x b)⟩
theorem bareH_D (Hs : Nat → Heap) (Kd : Nat → Nat) (k : Nat) (L : Nat → Bool) (j x : Nat) : (bareH Hs Kd k L j x).D = DL Hs Kd k L j x := by
  funext b
  apply propext
  simp only [Heap.D, bareH, List.mem_filter, List.mem_range, decide_eq_true_eq, not_and, Classical.not_not]
  exact ⟨fun h => h.2 h.1, fun h => ⟨h.1, fun _ => h⟩⟩

theorem wantedA_sound2 {T : Tr Value} {a : Act} {o : Oper} {ops : Array Oper} {b : Bool}
    (hg : ∀ g c d, o.guard = some (g, c) → (ops[g]?).bind (·.dst) = some d → ∀ v, T.get d = some v → a.tmps[d]? = some (ren e v)) (hw : wantedA o ops T = some b) : Region.wanted o (yielded ops a.tmps) = b := by
  simp only [wantedA] at hw
  simp only [Region.wanted]
  split at hw
  · rename_i hg; rw [hg]; cases hw; rfl
  · rename_i j want hgd
    rw [hgd]
    simp only
    split at hw
    · cases hw
    · rename_i d hd
      simp only [yielded, hd, Option.bind_some]
      split at hw
      · rename_i c hc
        cases hw
        have := hg j want d hgd hd _ hc
        simp only [ren_bool] at this
        rw [this]
        cases c <;> cases want <;> rfl
      · rename_i v hne hv
        cases hw
        have := hg j want d hgd hd v hv
        rw [this]
        have : ∀ c, ren e v ≠ .bool c := fun c hc => hne c (ren_bool_inv hc)
        split
        · rename_i c hc
          exact (this c (Option.some.inj hc)).elim
        · rfl
      · cases hw

section
variable {C : Calls3} {nt : Nat} {ops : Array Oper} {A W : Tr Nat} {T : Nat → Tr Value} {Hs : Nat → Heap} {Kd lvo hi lo : Nat → Nat}
variable {e0 : Env} {w0 : World} {ds : List Deferred} {L : Nat → Bool} {j : Nat} {a : Act}
variable (R : Ref Z p.G C nt ops A W T Hs Kd lvo hi lo)
include R

theorem Ref.bareRel (h0 : Rel p e0 (Hs 0) w0) (h : Inv p W T Hs Kd lvo ops.size nt e0 w0 ds L j e a w) {x : Nat} (hx : x ≤ ops.size) : Rel p e (bareH Hs Kd ops.size L j x) w := by
  have h1 := h0.nxt
  have h2 := R.next_le (Nat.zero_le x) hx
  have h3 := R.next_le (Nat.zero_le j) h.jk
  have h4 := R.small x hx
  refine h.step.rel.bare (by omega) (by omega) ?_
  intro b hb
  obtain ⟨hb1, hb2⟩ := List.mem_filter.1 hb
  simp only [decide_eq_true_eq] at hb2
  have hb1 := List.mem_range.1 hb1
  refine ⟨?_, hb1⟩
  by_cases hbj : b < (Hs j).next
  · exact (hb2 ⟨hb1, .inl hbj⟩).elim
  · omega

theorem Ref.DL_upd {i : Nat} {x b : Nat} (h : DL Hs Kd ops.size L j x b) : DL Hs Kd ops.size (upd L i) j x b := by
  obtain ⟨h1, h2⟩ := h
  refine ⟨h1, ?_⟩
  rcases h2 with h2 | ⟨m, h3, h4, h5, h6, h7⟩
  · exact .inl h2
  · exact .inr ⟨m, h3, h4, h5, by simp only [upd]; split <;> first | rfl | exact h6, h7⟩

/-- An operation that memory plays no part in. -/
theorem Ref.lightAfter (hnt : nt ≤ 2 ^ 30) (h : Inv p W T Hs Kd lvo ops.size nt e0 w0 ds L j e a w) {i : Nat} {o : Oper} (ho : ops[i]? = some o) (he : isEff (Kd i) = false) {w1 : World} {v : Value}
    (hk : ∀ r, r < w.heap.size → w1.heap[r]? = w.heap[r]?) (hs : w.heap.size ≤ w1.heap.size) (ht : w1.tape = w.tape) (hos : w1.os = w.os) (hout : w1.output = w.output)
    (hres : ∀ d, o.dst = some d → (T (i + 1)).get d = some v) (hu : Und (DL Hs Kd ops.size L j (hi i)) v) :
    Inv p W T Hs Kd lvo ops.size nt e0 w0 ds (upd L i) j e (a.put o.dst (ren e v)) w1 := by
  have hi' : i < ops.size := (Array.getElem?_eq_some_iff.1 ho).1
  have hLm : ∀ m, isEff (Kd m) = true → upd L i m = true → L m = true := by
    intro m hm hL
    simp only [upd] at hL
    split at hL
    · rename_i hmi; subst hmi; rw [he] at hm; cases hm
    · exact hL
  refine R.after hnt h ho (Nat.le_refl _) h.jk (h.step.ext hk hs ht hos hout) ?_ (fun _ _ _ => ⟨rfl, rfl⟩) hres ?_ ?_ ?_
  · intro m hm hem
    have := h.lead m hm hem
    simp only [upd]; split <;> first | rfl | exact this
  · have := R.lvE i hi'
    rw [he] at this
    rw [show lvo i = hi i from this]
    exact hu.mono fun b hb => R.DL_upd hb
  · intro m hm hmk hem hL
    obtain ⟨h1, o', r, h2, h3, h4, h5, h6, h7⟩ := h.pend m hm hmk hem (hLm m hem hL)
    exact ⟨h1, o', r, h2, by rw [hk _ (Array.getElem?_eq_some_iff.1 h3).1]; exact h3, h4, h5.mono fun b hb => R.DL_upd hb, h6, h7⟩
  · intro m m' h1 h2 h3 h4 h5 h6 h7 h8 h9
    exact h.pinj m m' h1 h2 h3 (hLm m h3 h4) h5 h6 h7 (hLm m' h7 h8) h9

theorem Ref.resOf {i : Nat} {o : Oper} (ho : ops[i]? = some o) (hnt : nt ≤ 2 ^ 30) {v : Value} (hT : T (i + 1) = putA (T i) o.dst v) : ∀ d, o.dst = some d → (T (i + 1)).get d = some v := by
  intro d hd
  have hok := R.ok i o ho
  simp only [opOk, hd, Bool.and_eq_true] at hok
  have hdn : d < nt := Nat.blt_eq.mp hok.1
  rw [hT, hd]
  simp only [putA]
  rw [Tr.get_set _ _ _ _ (by have : @LT.lt Nat _ d nt := hdn; omega), if_pos rfl]

/-- A row that is made early, or in its time. -/
theorem Ref.rowAfter (hnt : nt ≤ 2 ^ 30) (h0 : Rel p e0 (Hs 0) w0) (h : Inv p W T Hs Kd lvo ops.size nt e0 w0 ds L j e a w) {i : Nat} {o : Oper} (ho : ops[i]? = some o) (hk2 : Kd i = 2) (hLi : L i = false)
    {e1 : Env} {w1 : World} {v : Value} {ob : AObj} (hn : Hs (i + 1) = (Hs i).new ob) (hst : Step p e (bareH Hs Kd ops.size L j i) w e1 ((bareH Hs Kd ops.size L j i).new ob) w1)
    (hres : ∀ d, o.dst = some d → (T (i + 1)).get d = some v) (hu : Und ((bareH Hs Kd ops.size L j i).new ob).D v) :
    ∃ e2, ren e2 v = ren e1 v ∧ Inv p W T Hs Kd lvo ops.size nt e0 w0 ds (upd L i) j e2 (a.put o.dst (ren e2 v)) w1 := by
  have hi' : i < ops.size := (Array.getElem?_eq_some_iff.1 ho).1
  have hei : isEff (Kd i) = true := by rw [hk2]; rfl
  have hji : j ≤ i := by
    by_cases hx : j ≤ i
    · exact hx
    · have := h.lead i (by omega) hei
      rw [hLi] at this; cases this
  have hsm := R.small i (Nat.le_of_lt hi')
  have hB : (bareH Hs Kd ops.size L j i).next = (Hs i).next := rfl
  -- the new block
  have hget : ((bareH Hs Kd ops.size L j i).new ob).get (Hs i).next = some ob := by
    rw [Heap.get_new _ _ _ (by rw [hB]; omega), if_pos hB.symm]
  obtain ⟨r, hr, hor⟩ := hst.rel.obj _ _ hget
  have hou := hst.rel.und _ _ hget
  have hempty : ∀ r, ¬ Own p e (bareH Hs Kd ops.size L j i) r := by
    rintro r ⟨b, o', hb, _⟩
    simp [bareH, Heap.get, Tr.get] at hb
  have hN0 : p.N0 ≤ (Hs i).next := by
    have h1 := h0.nxt
    have h2 := R.next_le (Nat.zero_le i) (Nat.le_of_lt hi')
    omega
  have hfresh : w.heap.size ≤ e1.ρ (Hs i).next := by
    rcases hst.own _ ⟨_, _, hget, hN0, rfl⟩ with hx | hx
    · exact (hempty _ hx).elim
    · exact hx
  have hkeep : ∀ r, r < w.heap.size → w1.heap[r]? = w.heap[r]? := fun r hr => hst.keep r hr (hempty r)
  let e2 : Env := ⟨fun b => if b = (Hs i).next then e1.ρ b else e.ρ b, fun b => if b = (Hs i).next then e1.σ b else e.σ b⟩
  have hDne : ∀ x b, DL Hs Kd ops.size L j x b → b ≠ (Hs i).next := by
    rintro x b ⟨_, h2⟩ rfl
    rcases h2 with h2 | ⟨m, h3, h4, h5, h6, h7⟩
    · have := R.next_le hji (Nat.le_of_lt hi'); omega
    · obtain ⟨hm2, _⟩ := h.pend m h3 h4 h5 h6
      have hmi : m ≠ i := fun hx => by subst hx; rw [hLi] at h6; cases h6
      by_cases hlt : m < i
      · have h8 := R.H_new h4 hm2
        have h9 := R.next_le (i := m + 1) (j := i) (by omega) (Nat.le_of_lt hi')
        omega
      · have h8 := R.H_new hi' hk2
        have h9 := R.next_le (i := i + 1) (j := m) (by omega) (by omega)
        omega
  have hag : ∀ x b, DL Hs Kd ops.size L j x b → e.ρ b = e2.ρ b ∧ e.σ b = e2.σ b := by
    intro x b hb
    have := hDne x b hb
    simp [e2, this]
  have hag1 : Agree ((bareH Hs Kd ops.size L j i).new ob).D e1 e2 := by
    intro b hb
    by_cases hbn : b = (Hs i).next
    · simp [e2, hbn]
    · have hb' : (bareH Hs Kd ops.size L j i).D b := by
        refine ⟨?_, hb.2⟩
        have : b < (Hs i).next + 1 := hb.1
        show b < (Hs i).next
        omega
      have := hst.agree b hb'
      simp [e2, hbn, this.1, this.2]
  have hDnew : ∀ b, ((bareH Hs Kd ops.size L j i).new ob).D b → DL Hs Kd ops.size (upd L i) j (i + 1) b := by
    intro b hb
    have hnx : (Hs (i + 1)).next = (Hs i).next + 1 := by rw [hn]; rfl
    have hb1 : b < (Hs i).next + 1 := hb.1
    refine ⟨by omega, ?_⟩
    by_cases hbn : b = (Hs i).next
    · exact .inr ⟨i, hji, hi', hei, by simp [upd], hbn⟩
    · have hb' : (bareH Hs Kd ops.size L j i).D b := ⟨by show b < (Hs i).next; omega, hb.2⟩
      rw [bareH_D] at hb'
      exact (R.DL_upd hb').2
  have hstep : Step p e0 (Hs 0) w0 e2 (Hs j) w1 := by
    refine (h.step.congr ?_).ext hkeep hst.size hst.tape hst.os hst.output
    intro b hb
    have hle := R.next_le hji (Nat.le_of_lt hi')
    exact hag j b ⟨hb.1, .inl hb.1⟩
  have hownc : ∀ r, Own p e2 (Hs j) r → Own p e (Hs j) r := fun r hr => Own.congr h.step.rel (fun b hb => hag j b ⟨hb.1, .inl hb.1⟩) hr
  have hρi : e2.ρ (Hs i).next = e1.ρ (Hs i).next := by simp [e2]
  refine ⟨e2, (hu.eq hag1).symm, R.after hnt h ho (Nat.le_refl _) h.jk hstep ?_ hag hres ?_ ?_ ?_⟩
  · intro m hm hem
    have := h.lead m hm hem
    simp only [upd]; split <;> first | rfl | exact this
  · have := R.lvE i hi'
    rw [hei] at this
    rw [show lvo i = i + 1 from this]
    exact hu.mono hDnew
  · intro m hm hmk hem hL
    by_cases hmi : m = i
    · subst hmi
      refine ⟨hk2, ob, r, hn, ?_, ?_, ?_, ?_, ?_⟩
      · rw [hρi]; exact hr
      · exact hor.agree hou (hst.rel.lt _ _ hget) hag1
      · exact hou.mono hDnew
      · rw [hρi]; have := h.step.size; omega
      · intro hown
        obtain ⟨b, o', hb, hnb, hbr⟩ := hownc _ hown
        rw [hρi] at hbr
        obtain ⟨r', hr', _⟩ := h.step.rel.obj b o' hb
        have := (Array.getElem?_eq_some_iff.1 hr').1
        omega
    · have hLm : L m = true := by simpa [upd, hmi] using hL
      obtain ⟨h1, o', r', h2, h3, h4, h5, h6, h7⟩ := h.pend m hm hmk hem hLm
      have hbm : DL Hs Kd ops.size L j (m + 1) (Hs m).next := ⟨R.H_new hmk h1, .inr ⟨m, hm, hmk, hem, hLm, rfl⟩⟩
      have hρm : e2.ρ (Hs m).next = e.ρ (Hs m).next := (hag _ _ hbm).1.symm
      refine ⟨h1, o', r', h2, ?_, ?_, h5.mono fun b hb => R.DL_upd hb, by rw [hρm]; exact h6, fun hown => h7 (by rw [hρm] at hown; exact hownc _ hown)⟩
      · rw [hρm, hkeep _ (Array.getElem?_eq_some_iff.1 h3).1]; exact h3
      · exact h4.agree (n := DL Hs Kd ops.size L j (m + 1)) h5 hbm fun b hb => hag _ b hb
  · have hpi : ∀ m, j ≤ m → m < ops.size → isEff (Kd m) = true → upd L i m = true → m ≠ i → e2.ρ (Hs m).next < w.heap.size ∧ L m = true ∧ e2.ρ (Hs m).next = e.ρ (Hs m).next := by
      intro m hm hmk hem hL hmi
      have hLm : L m = true := by simpa [upd, hmi] using hL
      obtain ⟨h1, o', r', h2, h3, h4, h5, h6, h7⟩ := h.pend m hm hmk hem hLm
      have hbm : DL Hs Kd ops.size L j (m + 1) (Hs m).next := ⟨R.H_new hmk h1, .inr ⟨m, hm, hmk, hem, hLm, rfl⟩⟩
      have hρm : e2.ρ (Hs m).next = e.ρ (Hs m).next := (hag _ _ hbm).1.symm
      exact ⟨by rw [hρm]; exact (Array.getElem?_eq_some_iff.1 h3).1, hLm, hρm⟩
    intro m m' h1 h2 h3 h4 h5 h6 h7 h8 h9
    by_cases hmi : m = i <;> by_cases hmi' : m' = i
    · rw [hmi, hmi']
    · subst hmi
      have := (hpi m' h5 h6 h7 h8 hmi').1
      rw [hρi] at h9; omega
    · subst hmi'
      have := (hpi m h1 h2 h3 h4 hmi).1
      rw [hρi] at h9; omega
    · obtain ⟨_, ha, hb⟩ := hpi m h1 h2 h3 h4 hmi
      obtain ⟨_, hc, hd⟩ := hpi m' h5 h6 h7 h8 hmi'
      exact h.pinj m m' h1 h2 h3 ha h5 h6 h7 hc (by rw [← hb, ← hd]; exact h9)
end
end Go.Eng
