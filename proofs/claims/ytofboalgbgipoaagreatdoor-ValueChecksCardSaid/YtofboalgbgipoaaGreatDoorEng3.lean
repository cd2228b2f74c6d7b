/- The evaluator: regions that draw their order; closed calls; long walks, in pieces. -/
import Derived.Test.YtofboalgbgipoaaGreatDoorEng2
import Derived.Below
import Derived.Laws.Externs
import Derived.Lib.Bytealg
import Derived.OpenShut
import Derived.LaidLaws
import GoSem.ClaimJoined
set_option linter.all false
noncomputable section
namespace Go.Eng
variable [Shift]
variable {p : Par} {e e' e'' : Env} {H H' : Heap} {w w' w'' : World} {Z : Tab}

/-! ### More of memory -/
theorem Rel.congr (h : Rel p e H w) (ha : Agree H.D e e') : Rel p e' H w := by
  refine ⟨fun b o hb => ?_, h.und, h.lt, fun b b' o o' hb hb' heq => ?_, fun g hg => ?_, fun b o hb hn => ?_, h.siz, h.nxt, h.gn, h.sml, h.gst, fun b hb => ?_, h.sft⟩
  · obtain ⟨r, hr, ho⟩ := h.obj b o hb
    exact ⟨r, by rw [← (ha b (h.lt b o hb)).1]; exact hr, ho.agree (h.und b o hb) (h.lt b o hb) ha⟩
  · rw [← (ha b (h.lt b o hb)).1, ← (ha b' (h.lt b' o' hb')).1] at heq
    exact h.inj b b' o o' hb hb' heq
  · rw [← (ha g (h.gloD hg)).1, ← (ha g (h.gloD hg)).2]; exact h.glo g hg
  · rw [← (ha b (h.lt b o hb)).1]; exact h.own b o hb hn
  · rw [← (ha b (h.lowD hb)).1]; exact h.fix b hb
theorem Own.congr (h : Rel p e H w) (ha : Agree H.D e e') {r : Nat} (hr : Own p e' H r) : Own p e H r := by
  obtain ⟨b, o, hb, hn, rfl⟩ := hr
  exact ⟨b, o, hb, hn, (ha b (h.lt b o hb)).1⟩
theorem Step.congr (h : Step p e H w e' H' w') (ha : Agree H'.D e' e'') : Step p e H w e'' H' w' where
  agree := h.agree.trans ha h.sub
  le := h.le
  gho := h.gho
  rel := h.rel.congr ha
  size := h.size
  keep := h.keep
  own r hr := h.own r (Own.congr h.rel ha hr)
  tape := h.tape
  os := h.os
  output := h.output
/-- The world has grown, but for what is followed. -/
theorem Rel.ext (h : Rel p e H w) (hk : ∀ r, r < w.heap.size → w'.heap[r]? = w.heap[r]?) (hs : w.heap.size ≤ w'.heap.size) : Rel p e H w' := by
  refine ⟨fun b o hb => ?_, h.und, h.lt, h.inj, h.glo, h.own, Nat.le_trans h.siz hs, h.nxt, h.gn, h.sml, h.gst, h.fix, h.sft⟩
  obtain ⟨r, hr, ho⟩ := h.obj b o hb
  exact ⟨r, by rw [hk _ (Array.getElem?_eq_some_iff.1 hr).1]; exact hr, ho⟩
theorem Step.ext (h : Step p e H w e' H' w') (hk : ∀ r, r < w'.heap.size → w''.heap[r]? = w'.heap[r]?) (hs : w'.heap.size ≤ w''.heap.size) (ht : w''.tape = w'.tape) (ho : w''.os = w'.os) (hu : w''.output = w'.output) :
    Step p e H w e' H' w'' where
  agree := h.agree
  le := h.le
  gho := h.gho
  rel := h.rel.ext hk hs
  size := Nat.le_trans h.size hs
  keep r hr hn := by rw [hk r (Nat.lt_of_lt_of_le hr h.size)]; exact h.keep r hr hn
  own := h.own
  tape := ht.trans h.tape
  os := ho.trans h.os
  output := hu.trans h.output
/-- A row that nothing has followed is followed from now on. -/
theorem Step.promote (hB : p.B ≤ w.heap.size) (h : Step p e H w e' H' w') {o : AObj} {r : Obj} (hr : w'.heap[e'.ρ H'.next]? = some r) (ho : ORel p e' H'.next o r) (hu : OUnd p (H'.new o).D o)
    (hf : w.heap.size ≤ e'.ρ H'.next) (hno : ¬ Own p e' H' (e'.ρ H'.next)) (hs : H'.next + 2 < 2 ^ 40) : Step p e H w e' (H'.new o) w' := by
  have hg : ∀ b o', (H'.new o).get b = some o' → (b = H'.next ∧ o' = o) ∨ (b ≠ H'.next ∧ H'.get b = some o') := by
    intro b o' hb
    rw [Heap.get_new _ _ _ (by omega)] at hb
    split at hb
    · rename_i hbn; exact .inl ⟨hbn, (Option.some.inj hb).symm⟩
    · rename_i hbn; exact .inr ⟨hbn, hb⟩
  have hmono : ∀ b, H'.D b → (H'.new o).D b := Heap.D_mono (by simp) rfl
  have hR := h.rel
  have hne : ∀ b o', H'.get b = some o' → e'.ρ b ≠ e'.ρ H'.next := by
    intro b o' hb heq
    by_cases hn : p.N0 ≤ b
    · exact hno ⟨b, o', hb, hn, heq⟩
    · have := hR.fix b (by omega); omega
  have hown : ∀ r, Own p e' (H'.new o) r → Own p e' H' r ∨ r = e'.ρ H'.next := by
    rintro r ⟨b, o', hb, hn, rfl⟩
    rcases hg b o' hb with ⟨rfl, _⟩ | ⟨_, hb⟩
    · exact .inr rfl
    · exact .inl ⟨b, o', hb, hn, rfl⟩
  refine ⟨h.agree, by have := h.le; simp; omega, h.gho, ⟨?_, ?_, ?_, ?_, hR.glo, ?_, hR.siz, by have := hR.nxt; simp; omega, hR.gn, by simp; omega, fun b hb => ⟨(hR.gst b hb).1, Nat.lt_succ_of_lt (hR.gst b hb).2⟩, hR.fix, fun b hb => ?_⟩, h.size, h.keep, ?_, h.tape, h.os, h.output⟩
  · intro b o' hb
    rcases hg b o' hb with ⟨rfl, rfl⟩ | ⟨hn, hb⟩
    · exact ⟨r, hr, ho⟩
    · exact hR.obj b o' hb
  · intro b o' hb
    rcases hg b o' hb with ⟨rfl, rfl⟩ | ⟨hn, hb⟩
    · exact hu
    · exact (hR.und b o' hb).mono hmono
  · intro b o' hb
    rcases hg b o' hb with ⟨rfl, _⟩ | ⟨_, hb⟩
    · exact hR.newD
    · exact hmono _ (hR.lt b o' hb)
  · intro b b' o1 o2 hb hb' heq
    rcases hg b o1 hb with ⟨rfl, rfl⟩ | ⟨hn, hb1⟩ <;> rcases hg b' o2 hb' with ⟨rfl, rfl⟩ | ⟨hn', hb2⟩
    · rfl
    · exact absurd heq.symm (hne b' o2 hb2)
    · exact absurd heq (hne b o1 hb1)
    · exact hR.inj b b' o1 o2 hb1 hb2 heq
  · intro b o' hb hn
    rcases hg b o' hb with ⟨rfl, _⟩ | ⟨_, hb⟩
    · omega
    · exact hR.own b o' hb hn
  · obtain ⟨h1, h2, h3⟩ := hR.sft b hb
    have := hR.nxt
    exact ⟨h1, h2, by rw [Heap.get_new _ _ _ (by omega), if_neg (by omega)]; exact h3⟩
  · intro r hr
    rcases hown r hr with h1 | rfl
    · exact h.own r h1
    · exact .inr hf

/-! ### What a followed region is -/
def OutFact (C : Calls3) (o : Oper) (T : Tr Value) (h : Heap) (T' : Tr Value) (h' : Heap) : Out → Prop
  | .val v d => T' = putA T o.dst v ∧ h' = h.app d
  | .enter f args => ∃ v, C.fn f args h = some (.ret v, h') ∧ T' = putA T o.dst v
  | .round l args => ∃ v, C.rd l args h = some (v, h') ∧ T' = putA T o.dst v
  | _ => False
def OpFact (Z : Tab) (C : Calls3) (o : Oper) (b : Bool) (T : Tr Value) (h : Heap) (T' : Tr Value) (h' : Heap) : Prop :=
  (b = false → T' = putA T o.dst undef ∧ h' = h) ∧ (b = true → ∃ out, doOp Z (ev T) h o = some out ∧ OutFact C o T h T' h' out)

theorem step1_fact {C : Calls3} {rd : Bool} {ops : Array Oper} {o : Oper} {s s' : St} {b : Bool} (hb : wantedA o ops s.T = some b) (h : step1 Z C rd ops o s = some (.normal, s')) (hds : s'.ds.length = s.ds.length) :
    OpFact Z C o b s.T s.h s'.T s'.h ∧ s'.ds = s.ds := by
  simp only [step1, St.elimK_eq, doOpF_eq, Option.bind_eq_bind] at h
  split at h
  · cases h
  rw [hb] at h
  simp only [Option.bind_some] at h
  cases b with
  | false =>
    simp only [Bool.false_eq_true, if_false, putK_eq] at h
    cases h
    exact ⟨⟨fun _ => ⟨rfl, rfl⟩, fun hx => by cases hx⟩, rfl⟩
  | true =>
    simp only [if_true, Option.bind_eq_some_iff] at h
    obtain ⟨out, hout, h⟩ := h
    have key : OutFact C o s.T s.h s'.T s'.h out ∧ s'.ds = s.ds := by
      cases out with
      | val v d => simp only [putK_eq, Heap.appK_eq] at h; cases h; exact ⟨⟨rfl, rfl⟩, rfl⟩
      | enter f args =>
        simp only [Option.bind_eq_some_iff] at h
        obtain ⟨⟨res, h1⟩, hc, h⟩ := h
        cases res with
        | ret v => simp only [putK_eq] at h; cases h; exact ⟨⟨v, hc, rfl⟩, rfl⟩
        | pan v => cases h
      | round l args =>
        simp only [Option.bind_eq_some_iff] at h
        obtain ⟨⟨v, h1⟩, hc, h⟩ := h
        simp only [putK_eq] at h
        cases h
        exact ⟨⟨v, hc, rfl⟩, rfl⟩
      | defer d =>
        simp only at h
        split at h
        · cases h
        · simp only [putK_eq] at h
          cases h
          simp at hds
      | recover => cases h
      | panic v => cases h
    exact ⟨⟨(fun hx => by cases hx), fun _ => ⟨out, hout, key.1⟩⟩, key.2⟩

def Ti (rs : List DRec) (sf : St) (i : Nat) : Tr Value := match rs[i]? with | some r => r.T | none => sf.T
def Hi (rs : List DRec) (sf : St) (i : Nat) : Heap := match rs[i]? with | some r => r.h | none => sf.h
def Ki (rs : List DRec) (i : Nat) : Nat := match rs[i]? with | some r => r.kind | none => 4

theorem fwd_spec {C : Calls3} {rd : Bool} {ops : Array Oper} : ∀ (l : List Oper) (s sf : St) (rs : List DRec), fwd Z C rd ops l s = some (rs, sf) →
    rs.length = l.length ∧ Ti rs sf 0 = s.T ∧ Hi rs sf 0 = s.h ∧ sf.ds = s.ds ∧
    ∀ i o, l[i]? = some o → (∃ b, wantedA o ops (Ti rs sf i) = some b ∧ Ki rs i = cond b (kindOf o.op) 4 ∧ OpFact Z C o b (Ti rs sf i) (Hi rs sf i) (Ti rs sf (i + 1)) (Hi rs sf (i + 1))) ∧
      (Hi rs sf i).next ≤ (Hi rs sf (i + 1)).next ∧ (Hi rs sf (i + 1)).next < 1000000000 ∧ (Hi rs sf (i + 1)).ghost = []
  | [], s, sf, rs, h => by
    simp only [fwd] at h
    cases h
    exact ⟨rfl, rfl, rfl, rfl, fun i o hi => by simp at hi⟩
  | o :: os, s, sf, rs, h => by
    simp only [fwd] at h
    split at h
    · cases h
    rename_i b hb
    split at h <;> try (cases h; done)
    rename_i s1 h1
    cases hc : (Nat.ble s.h.next s1.h.next && Nat.blt s1.h.next 1000000000 && s1.h.ghost.isEmpty && Nat.beq s1.ds.length s.ds.length) with
    | false => rw [hc] at h; cases h
    | true =>
      rw [hc] at h
      simp only [cond] at h
      simp only [Bool.and_eq_true, Nat.blt_eq, List.isEmpty_iff] at hc
      obtain ⟨⟨⟨hle, hlt⟩, hgh⟩, hds⟩ := hc
      have hle := Nat.le_of_ble_eq_true hle
      have hds := Nat.eq_of_beq_eq_true hds
      split at h <;> try (cases h; done)
      rename_i rs1 sf1 hrec
      cases h
      obtain ⟨hl, hT0, hH0, hdsf, hall⟩ := fwd_spec os s1 sf rs1 hrec
      obtain ⟨hf, hdse⟩ := step1_fact hb h1 hds
      refine ⟨by simp [hl], rfl, rfl, hdsf.trans hdse, ?_⟩
      intro i o' hi
      cases i with
      | zero =>
        simp only [List.getElem?_cons_zero, Option.some.injEq] at hi
        subst hi
        refine ⟨⟨b, hb, by cases b <;> rfl, ?_⟩, ?_⟩
        · show OpFact Z C o b s.T s.h (Ti rs1 sf 0) (Hi rs1 sf 0)
          rw [hT0, hH0]; exact hf
        · show s.h.next ≤ (Hi rs1 sf 0).next ∧ (Hi rs1 sf 0).next < 1000000000 ∧ (Hi rs1 sf 0).ghost = []
          rw [hH0]; exact ⟨hle, hlt, hgh⟩
      | succ i =>
        simp only [List.getElem?_cons_succ] at hi
        exact hall i o' hi

/-! ### Which operation comes before which -/
theorem maskOf_spec {A : Tr Nat} {i : Nat} : ∀ (es : List Edge) (m : Nat), maskOf A i es = some m →
    (∀ x ∈ es, Region.binds .any x = true → x.on < i) ∧ ∀ j, m.testBit j = true → ∃ x ∈ es, Region.binds .any x = true ∧ (x.on = j ∨ bitA A x.on j = true)
  | [], m, h => by cases h; exact ⟨by simp, fun j hj => by simp at hj⟩
  | x :: es, m, h => by
    simp only [maskOf] at h
    split at h
    · cases h
    rename_i m1 h1
    obtain ⟨ha, hb⟩ := maskOf_spec es m1 h1
    cases hx : Region.binds .any x with
    | false =>
      rw [hx] at h
      cases h
      refine ⟨fun y hy hyb => ?_, fun j hj => ?_⟩
      · rcases List.mem_cons.1 hy with rfl | hy
        · rw [hx] at hyb; cases hyb
        · exact ha y hy hyb
      · obtain ⟨y, hy, h2⟩ := hb j hj
        exact ⟨y, by simp [hy], h2⟩
    | true =>
      rw [hx] at h
      simp only [cond] at h
      split at h <;> try (cases h; done)
      rename_i hlt
      cases h
      refine ⟨fun y hy hyb => ?_, fun j hj => ?_⟩
      · rcases List.mem_cons.1 hy with rfl | hy
        · exact Nat.blt_eq.mp hlt
        · exact ha y hy hyb
      · simp only [Nat.testBit_or, Bool.or_eq_true, Nat.testBit_two_pow, decide_eq_true_eq] at hj
        rcases hj with (hj | hj) | hj
        · obtain ⟨y, hy, h2⟩ := hb j hj
          exact ⟨y, by simp [hy], h2⟩
        · exact ⟨x, by simp, hx, .inl hj⟩
        · refine ⟨x, by simp, hx, .inr ?_⟩
          unfold bitA
          cases hA : A.get x.on with
          | none => rw [hA] at hj; simp at hj
          | some q => rw [hA] at hj; exact hj

theorem maskOf_congr {A A' : Tr Nat} {i : Nat} (hA : ∀ j, j < i → A'.get j = A.get j) : ∀ (es : List Edge), maskOf A' i es = maskOf A i es
  | [] => rfl
  | x :: es => by
    simp only [maskOf, maskOf_congr hA es]
    split
    · rfl
    · cases hx : Region.binds .any x with
      | false => rfl
      | true =>
        simp only [cond]
        cases hl : Nat.blt x.on i with
        | false => rfl
        | true => simp only [hA x.on (Nat.blt_eq.mp hl)]

theorem masks_spec : ∀ (l : List Oper) (i : Nat) (A A' : Tr Nat), i + l.length < 2 ^ 30 → masks l i A = some A' →
    (∀ j, j < i → A'.get j = A.get j) ∧ ∀ k o, l[k]? = some o → ∃ m, A'.get (i + k) = some m ∧ maskOf A' (i + k) o.after.toList = some m
  | [], i, A, A', hb, h => by cases h; exact ⟨fun _ _ => rfl, fun k o hk => by simp at hk⟩
  | o :: os, i, A, A', hb, h => by
    simp only [masks] at h
    split at h
    · cases h
    rename_i m hm
    simp only [List.length_cons] at hb
    obtain ⟨h1, h2⟩ := masks_spec os (i + 1) _ A' (by omega) h
    have hset : ∀ j, (A.set i (some m)).get j = if j = i then some m else A.get j := fun j => Tr.get_set _ _ _ _ (by omega)
    have h1' : ∀ j, j < i → A'.get j = A.get j := fun j hj => by rw [h1 j (by omega), hset, if_neg (by omega)]
    refine ⟨h1', ?_⟩
    intro k o' hk
    cases k with
    | zero =>
      simp only [List.getElem?_cons_zero, Option.some.injEq] at hk
      subst hk
      refine ⟨m, by rw [Nat.add_zero, h1 i (by omega), hset, if_pos rfl], ?_⟩
      rw [Nat.add_zero, maskOf_congr h1']; exact hm
    | succ k =>
      simp only [List.getElem?_cons_succ] at hk
      have := h2 k o' hk
      rw [show i + (k + 1) = i + 1 + k from by omega]; exact this

theorem writers_spec {nt : Nat} (hnt : nt ≤ 2 ^ 30) : ∀ (l : List Oper) (i : Nat) (W W' : Tr Nat), (∀ o ∈ l, ∀ d, o.dst = some d → d < nt) → writers l i W = some W' →
    (∀ d x, W.get d = some x → W'.get d = some x) ∧ (∀ k o d, l[k]? = some o → o.dst = some d → W'.get d = some (i + k)) ∧
    (∀ d x, W'.get d = some x → W.get d = some x ∨ ∃ k o, l[k]? = some o ∧ o.dst = some d ∧ x = i + k)
  | [], i, W, W', hb, h => by cases h; exact ⟨fun _ _ h => h, fun k o d hk => by simp at hk, fun d x h => .inl h⟩
  | o :: os, i, W, W', hb, h => by
    simp only [writers] at h
    split at h
    · rename_i hd
      obtain ⟨h1, h2, h3⟩ := writers_spec hnt os (i + 1) W W' (fun o' ho' => hb o' (by simp [ho'])) h
      refine ⟨h1, ?_, ?_⟩
      · intro k o' d hk hd'
        cases k with
        | zero => simp only [List.getElem?_cons_zero, Option.some.injEq] at hk; subst hk; rw [hd] at hd'; cases hd'
        | succ k => rw [h2 k o' d (by simpa using hk) hd']; congr 1; omega
      · intro d x hx
        rcases h3 d x hx with h4 | ⟨k, o', hk, hd', rfl⟩
        · exact .inl h4
        · exact .inr ⟨k + 1, o', by simpa using hk, hd', by omega⟩
    · rename_i d0 hd0
      cases hs : (W.get d0).isSome with
      | true => rw [hs] at h; cases h
      | false =>
        rw [hs] at h
        simp only [cond] at h
        have hd0n := hb o (by simp) d0 hd0
        have hset : ∀ j, (W.set d0 (some i)).get j = if j = d0 then some i else W.get j := fun j => Tr.get_set _ _ _ _ (by have : @LT.lt Nat _ d0 nt := hd0n; omega)
        obtain ⟨h1, h2, h3⟩ := writers_spec hnt os (i + 1) _ W' (fun o' ho' => hb o' (by simp [ho'])) h
        refine ⟨?_, ?_, ?_⟩
        · intro d x hx
          refine h1 d x ?_
          rw [hset]
          by_cases hdd : d = d0
          · subst hdd; rw [hx] at hs; cases hs
          · rw [if_neg hdd]; exact hx
        · intro k o' d hk hd'
          cases k with
          | zero =>
            simp only [List.getElem?_cons_zero, Option.some.injEq] at hk
            subst hk
            rw [hd0] at hd'
            cases hd'
            exact h1 d0 i (by rw [hset, if_pos rfl])
          | succ k => rw [h2 k o' d (by simpa using hk) hd']; congr 1; omega
        · intro d x hx
          rcases h3 d x hx with h4 | ⟨k, o', hk, hd', rfl⟩
          · rw [hset] at h4
            split at h4
            · rename_i hdd; subst hdd; cases h4; exact .inr ⟨0, o, rfl, hd0, rfl⟩
            · exact .inl h4
          · exact .inr ⟨k + 1, o', by simpa using hk, hd', by omega⟩

theorem hiOf_spec {A : Tr Nat} {i : Nat} : ∀ (ks : List Nat) (m : Nat), m ≤ hiOf A i ks m ∧ hiOf A i ks m ≤ m + ks.length ∧
    (∀ q, hiOf A i ks m = m + q → q < ks.length → isEff (ks.getD q 4) = true ∧ bitA A (m + q) i = true)
  | [], m => ⟨Nat.le_refl _, Nat.le_refl _, fun q _ h => by simp at h⟩
  | k :: ks, m => by
    simp only [hiOf]
    obtain ⟨h1, h2, h3⟩ := hiOf_spec (A := A) (i := i) ks (m + 1)
    cases hc : (isEff k && bitA A m i) with
    | true =>
      simp only [cond, List.length_cons]
      refine ⟨Nat.le_refl _, by omega, fun q hq _ => ?_⟩
      have : q = 0 := by omega
      subst this
      simpa using hc
    | false =>
      simp only [cond, List.length_cons]
      refine ⟨by omega, by omega, fun q hq hl => ?_⟩
      obtain ⟨q', rfl⟩ : ∃ q', q = q' + 1 := ⟨q - 1, by omega⟩
      have := h3 q' (by omega) (by omega)
      rw [show m + (q' + 1) = m + 1 + q' from by omega]
      simpa using this
theorem loOf_spec {A : Tr Nat} {i : Nat} : ∀ (ks : List Nat) (m : Nat), loOf A i ks m ≤ m + ks.length ∧ ∀ q, m + q < loOf A i ks m → isEff (ks.getD q 4) = true → bitA A i (m + q) = true
  | [], m => ⟨Nat.le_refl _, fun q h _ => by simp only [loOf] at h; omega⟩
  | k :: ks, m => by
    simp only [loOf]
    obtain ⟨h1, h2⟩ := loOf_spec (A := A) (i := i) ks (m + 1)
    cases hc : (isEff k && !bitA A i m) with
    | true =>
      simp only [cond, List.length_cons]
      exact ⟨by omega, fun q hq => by omega⟩
    | false =>
      simp only [cond, List.length_cons]
      refine ⟨by omega, fun q hq he => ?_⟩
      cases q with
      | zero =>
        simp only [List.getD_cons_zero] at he
        rw [he] at hc
        simpa using hc
      | succ q =>
        have := h2 q (by omega) (by simpa using he)
        rw [show m + (q + 1) = m + 1 + q from by omega]; exact this
theorem lvos_spec {A : Tr Nat} {all : List Nat} : ∀ (ks : List Nat) (i q : Nat), q < ks.length → (lvos A all ks i).getD q 0 = lvoOf A all (i + q) (ks.getD q 4)
  | [], i, q, h => by simp at h
  | k :: ks, i, q, h => by
    simp only [lvos, forceNat_eq]
    cases q with
    | zero => simp
    | succ q =>
      simp only [List.length_cons] at h
      have := lvos_spec (A := A) (all := all) ks (i + 1) q (by omega)
      simp only [List.getD_cons_succ]
      rw [this]; congr 1; omega

theorem sameV_eq : ∀ (n : Nat) (a b : Value), sameV n a b = true → a = b
  | 0, a, b, h => by simp [sameV] at h
  | n + 1, a, b, h => by
    have haddr : ∀ x y : Addr, x.block = y.block → x.off = y.off → x.spot = none → y.spot = none → x = y := by
      rintro ⟨b1, o1, s1⟩ ⟨b2, o2, s2⟩ h1 h2 h3 h4
      simp only at h1 h2 h3 h4
      rw [h1, h2, h3, h4]
    have arr : ∀ x y : Array Value, Nat.beq x.size y.size = true → ((x.toList.zip y.toList).all fun p => sameV n p.1 p.2) = true → x = y := by
      intro x y hs' hall
      simp only [List.all_eq_true] at hall
      have hs := Nat.eq_of_beq_eq_true hs'
      apply Array.ext'
      apply List.ext_getElem (by simpa using hs)
      intro i h1 h2
      have := hall (x.toList[i], y.toList[i]) (by
        rw [List.mem_iff_getElem]
        exact ⟨i, by simp at h1 h2 ⊢; omega, by simp⟩)
      exact sameV_eq n _ _ this
    simp only [sameV] at h
    split at h
    · simpa using h
    · simp at h; rw [h.1, h.2]
    · rename_i x y
      have h' : x.data.toList = y.data.toList := by simpa using h
      have : x = y := by
        obtain ⟨x⟩ := x; obtain ⟨y⟩ := y
        congr 1
        exact Array.ext' h'
      rw [this]
    · rfl
    · rename_i x y
      simp only [Bool.and_eq_true, Option.isNone_iff_eq_none] at h
      rw [haddr x y (Nat.eq_of_beq_eq_true h.1.1.1) (Nat.eq_of_beq_eq_true h.1.1.2) h.1.2 h.2]
    · simp only [Bool.and_eq_true] at h
      rw [Nat.eq_of_beq_eq_true h.1, Nat.eq_of_beq_eq_true h.2]
    · rename_i x l c y l' c'
      simp only [Bool.and_eq_true, Option.isNone_iff_eq_none] at h
      rw [haddr x y (Nat.eq_of_beq_eq_true h.1.1.1.1.1) (Nat.eq_of_beq_eq_true h.1.1.1.1.2) h.1.1.1.2 h.1.1.2, Nat.eq_of_beq_eq_true h.1.2, Nat.eq_of_beq_eq_true h.2]
    · rfl
    · rename_i t x t' y
      simp only [Bool.and_eq_true] at h
      rw [Nat.eq_of_beq_eq_true h.1, sameV_eq n x y h.2]
    · rename_i x y
      simp only [Bool.and_eq_true, List.all_eq_true] at h
      have hs := Nat.eq_of_beq_eq_true h.1
      have : x = y := by
        apply Array.ext'
        apply List.ext_getElem (by simpa using hs)
        intro i h1 h2
        have := h.2 (x.toList[i], y.toList[i]) (by
          rw [List.mem_iff_getElem]
          exact ⟨i, by simp at h1 h2 ⊢; omega, by simp⟩)
        exact sameV_eq n _ _ this
      rw [this]
    · rename_i x y
      simp only [Bool.and_eq_true] at h
      rw [arr x y h.1 h.2]
    · rfl
    · rw [Nat.eq_of_beq_eq_true h]
    · rfl
    · rename_i f a b f' a' b'
      simp only [Bool.and_eq_true, decide_eq_true_eq] at h
      obtain ⟨⟨⟨⟨h1, h2⟩, h3⟩, h4⟩, h5⟩ := h
      rw [h1, arr a a' h2 h4, arr b b' h3 h5]
    · cases h
end Go.Eng

namespace Go.Eng
variable [Shift]
variable {p : Par} {e e' e'' : Env} {H H' : Heap} {w w' w'' : World} {Z : Tab}

/-- A region as it is followed in the order of the text: what is there ahead of each operation. -/
structure Ref (Z : Tab) (G : Nat) (C : Calls3) (nt : Nat) (ops : Array Oper) (A W : Tr Nat) (T : Nat → Tr Value) (Hs : Nat → Heap) (Kd lvo hi lo : Nat → Nat) : Prop where
  sz : ops.size < 1000
  fact : ∀ (i : Nat) (o : Oper), ops[i]? = some o → ∃ b, wantedA o ops (T i) = some b ∧ Kd i = cond b (kindOf o.op) 4 ∧ OpFact Z C o b (T i) (Hs i) (T (i + 1)) (Hs (i + 1))
  mono : ∀ i, i < ops.size → (Hs i).next ≤ (Hs (i + 1)).next
  small : ∀ i, i ≤ ops.size → (Hs i).next < 1000000000
  gh : ∀ i, i ≤ ops.size → (Hs i).ghost = []
  bind : ∀ (i : Nat) (o : Oper), ops[i]? = some o → ∀ x ∈ o.after, Region.binds .any x = true → x.on < i
  anc : ∀ (i : Nat) (o : Oper), ops[i]? = some o → ∀ j, bitA A i j = true → ∃ x ∈ o.after, Region.binds .any x = true ∧ (x.on = j ∨ bitA A x.on j = true)
  wr : ∀ (i : Nat) (o : Oper) (d : Tmp), ops[i]? = some o → o.dst = some d → W.get d = some i
  wr' : ∀ (d i : Nat), W.get d = some i → ∃ o : Oper, ops[i]? = some o ∧ o.dst = some d
  ok : ∀ (i : Nat) (o : Oper), ops[i]? = some o → opOk G nt o = true
  hiE : ∀ i, hi i ≤ ops.size ∧ (hi i < ops.size → isEff (Kd (hi i)) = true ∧ bitA A (hi i) i = true)
  loE : ∀ i, lo i ≤ ops.size ∧ ∀ m, m < lo i → isEff (Kd m) = true → bitA A i m = true
  lvE : ∀ i, i < ops.size → lvo i = cond (isEff (Kd i)) (i + 1) (hi i)
  chkO : ∀ (i : Nat) (o : Oper), ops[i]? = some o → ∀ x ∈ o.op.operands.toList, ∀ t, x = .tmp t → ∀ j, W.get t = some j → (j < i → bitA A i j = true ∧ lvo j ≤ cond (isEff (Kd i)) i (hi i)) ∧ (i < j → bitA A j i = true)
  chkG : ∀ (i : Nat) (o : Oper), ops[i]? = some o → ∀ g c d, o.guard = some (g, c) → (ops[g]?).bind (·.dst) = some d → ∀ j, W.get d = some j → (j < i → bitA A i j = true) ∧ (i < j → bitA A j i = true)
  ld : ∀ (i : Nat) (o : Oper), ops[i]? = some o → Kd i = 1 → ∃ v, (∃ t x ad, o.op = .load t x ∧ ev (T i) x = .pointer (some ad) ∧ loadV Z (Hs i) t ad = some v ∧ ∀ j, lo i ≤ j → j ≤ hi i → loadV Z (Hs j) t ad = some v) ∨
    (∃ t x ix ok, o.op = .lookup t x ix ok ∧ known (ev (T i) x) = true ∧ lookupA Z (Hs i) t (ev (T i) x) (ev (T i) ix) ok = some v ∧ ∀ j, lo i ≤ j → j ≤ hi i → lookupA Z (Hs j) t (ev (T i) x) (ev (T i) ix) ok = some v)
  ef : ∀ i, i < ops.size → Kd i = 3 → i ≤ lo i
  no5 : ∀ i, i < ops.size → Kd i ≠ 5

section
variable {G : Nat} {C : Calls3} {nt : Nat} {ops : Array Oper} {A W : Tr Nat} {T : Nat → Tr Value} {Hs : Nat → Heap} {Kd lvo hi lo : Nat → Nat}
variable (R : Ref Z G C nt ops A W T Hs Kd lvo hi lo)
include R

theorem Ref.get {i : Nat} (h : i < ops.size) : ∃ o, ops[i]? = some o := ⟨ops[i], by simp [h]⟩
theorem Ref.next_le {i j : Nat} (hij : i ≤ j) (hj : j ≤ ops.size) : (Hs i).next ≤ (Hs j).next := by
  induction j with
  | zero => have : i = 0 := by omega
            subst this; exact Nat.le_refl _
  | succ j ih =>
    by_cases h : i = j + 1
    · subst h; exact Nat.le_refl _
    · exact Nat.le_trans (ih (by omega) (by omega)) (R.mono j (by omega))

omit R in
theorem kindOf_cases (o : Op) : kindOf o = 0 ∨ kindOf o = 1 ∨ kindOf o = 2 ∨ kindOf o = 3 ∨ kindOf o = 5 := by cases o <;> simp [kindOf]
omit R in
theorem light_same {ρ : Operand → Value} {h : Heap} {o : Oper} {out : Out} (hk : kindOf o.op = 0) (hd : doOp Z ρ h o = some out) : (∃ v, out = .val v .same) ∧ ∀ h', doOp Z ρ h' o = some out := by
  refine ⟨?_, fun h' => ?_⟩
  · unfold doOp at hd
    cases ho : o.op <;> simp only [ho, kindOf] at hk hd <;> first
      | (cases hk; done)
      | (simp only [Option.map_eq_some_iff] at hd; obtain ⟨v, _, rfl⟩ := hd; exact ⟨v, rfl⟩)
      | (split at hd <;> first | (cases hd; done) | (cases hd; exact ⟨_, rfl⟩) | (simp only [Option.map_eq_some_iff] at hd; obtain ⟨v, _, rfl⟩ := hd; exact ⟨v, rfl⟩))
      | (split at hd <;> first | (cases hd; done) | (rename_i t _; cases t <;> simp only [cond] at hd <;> split at hd <;> first | (cases hd; done) | (cases hd; exact ⟨_, rfl⟩)))
      | (simp only [Option.bind_eq_some_iff] at hd; obtain ⟨v, _, hd⟩ := hd; split at hd <;> first | (cases hd; done) | (cases hd; exact ⟨_, rfl⟩))
      | skip
    all_goals
      split at hd <;> first
        | (cases hd; done)
        | (split at hd <;> first | (cases hd; done) | (cases hd; exact ⟨_, rfl⟩))
  · rw [← hd]
    unfold doOp
    cases ho : o.op <;> simp only [ho, kindOf] at hk ⊢ <;> cases hk
omit R in
theorem bs_indep {ρ : Operand → Value} {h h' : Heap} {o : Oper} {out : Out} (hk : kindOf o.op = 2) (hd : doOp Z ρ h o = some out) (hn : h'.next = h.next) :
    (∃ v cells el, out = .val v (.new (.cells cells el (0, 0) false))) ∧ doOp Z ρ h' o = some out := by
  refine ⟨?_, ?_⟩
  · unfold doOp at hd
    cases ho : o.op <;> simp only [ho, kindOf] at hk hd <;> first
      | (cases hk; done)
      | skip
    case alloc el =>
      simp only [Option.bind_eq_bind, Option.bind_eq_some_iff] at hd
      obtain ⟨i, _, z, _, hd⟩ := hd
      split at hd <;> try (cases hd; done)
      cases hd
      exact ⟨_, _, _, rfl⟩
    case box el x =>
      split at hd
      · cases hd
      · cases hd
        exact ⟨_, _, _, rfl⟩
    split at hd
    · cases hd
    · simp only [Option.map_eq_some_iff] at hd
      obtain ⟨⟨v, d⟩, hb, rfl⟩ := hd
      simp only [buildSliceA, Option.bind_eq_bind, Option.bind_eq_some_iff] at hb
      obtain ⟨d1, _, hb⟩ := hb
      split at hb <;> try (cases hb; done)
      simp only [Option.bind_eq_some_iff] at hb
      obtain ⟨i, _, z, _, hb⟩ := hb
      split at hb
      · cases hb
      · simp only [Option.bind_eq_some_iff] at hb
        obtain ⟨cells, _, hb⟩ := hb
        cases hb
        exact ⟨_, _, _, rfl⟩
  · rw [← hd]
    unfold doOp
    cases ho : o.op <;> simp only [ho, kindOf] at hk ⊢ <;> first | (cases hk; done) | skip
    all_goals simp only [buildSliceA, hn]

/-- The temporaries, at each operation: ahead of the one that writes them as at the beginning, behind it as at the end. -/
theorem Ref.T_step {i : Nat} {o : Oper} (ho : ops[i]? = some o) (hnt : nt ≤ 2 ^ 30) : ∃ v, (∀ t, (T (i + 1)).get t = if o.dst = some t then some v else (T i).get t) := by
  obtain ⟨b, hb, hk, hf0, hf1⟩ := R.fact i o ho
  have hput : ∀ v, T (i + 1) = putA (T i) o.dst v → ∀ t, (T (i + 1)).get t = if o.dst = some t then some v else (T i).get t := by
    intro v hv t
    rw [hv]
    cases hd : o.dst with
    | none => simp [putA]
    | some d =>
      have hok := R.ok i o ho
      simp only [opOk, hd, Bool.and_eq_true] at hok
      have hdn : d < nt := Nat.blt_eq.mp hok.1
      simp only [putA]
      rw [Tr.get_set _ _ _ _ (by have : @LT.lt Nat _ d nt := hdn; omega)]
      by_cases htd : t = d
      · subst htd; simp
      · rw [if_neg htd, if_neg (by simp; exact fun h => htd h.symm)]
  cases b with
  | false => exact ⟨_, hput _ (hf0 rfl).1⟩
  | true =>
    obtain ⟨out, _, hof⟩ := hf1 rfl
    cases out with
    | val v d => exact ⟨v, hput v hof.1⟩
    | enter f args => obtain ⟨v, _, hv⟩ := hof; exact ⟨v, hput v hv⟩
    | round l args => obtain ⟨v, _, hv⟩ := hof; exact ⟨v, hput v hv⟩
    | defer d => exact hof.elim
    | recover => exact hof.elim
    | panic v => exact hof.elim

theorem Ref.T_none (hnt : nt ≤ 2 ^ 30) {t : Nat} (hW : W.get t = none) : ∀ i, i ≤ ops.size → (T i).get t = (T 0).get t := by
  intro i
  induction i with
  | zero => intro _; rfl
  | succ i ih =>
    intro hi
    obtain ⟨o, ho⟩ := R.get (i := i) (by omega)
    obtain ⟨v, hv⟩ := R.T_step ho hnt
    rw [hv t, if_neg (fun hd => by rw [R.wr i o t ho hd] at hW; cases hW), ih (by omega)]
theorem Ref.T_ahead (hnt : nt ≤ 2 ^ 30) {t j : Nat} (hW : W.get t = some j) : ∀ i, i ≤ ops.size → i ≤ j → (T i).get t = (T 0).get t := by
  intro i
  induction i with
  | zero => intro _ _; rfl
  | succ i ih =>
    intro hi hij
    obtain ⟨o, ho⟩ := R.get (i := i) (by omega)
    obtain ⟨v, hv⟩ := R.T_step ho hnt
    rw [hv t, if_neg (fun hd => by rw [R.wr i o t ho hd] at hW; cases hW; omega), ih (by omega) (by omega)]
theorem Ref.T_behind (hnt : nt ≤ 2 ^ 30) {t j : Nat} (hW : W.get t = some j) : ∀ i i', j < i → i ≤ i' → i' ≤ ops.size → (T i').get t = (T i).get t := by
  intro i i' hj hii
  induction i' with
  | zero => intro _; have : i = 0 := by omega
            subst this; rfl
  | succ i' ih =>
    intro hk
    by_cases h : i = i' + 1
    · subst h; rfl
    · obtain ⟨o, ho⟩ := R.get (i := i') (by omega)
      obtain ⟨v, hv⟩ := R.T_step ho hnt
      rw [hv t, if_neg (fun hd => by rw [R.wr i' o t ho hd] at hW; cases hW; omega), ih (by omega) (by omega)]

/-- What does not do anything to memory. -/
theorem Ref.H_light {i : Nat} (hi : i < ops.size) (he : isEff (Kd i) = false) : Hs (i + 1) = Hs i := by
  obtain ⟨o, ho⟩ := R.get hi
  obtain ⟨b, hb, hk, hf0, hf1⟩ := R.fact i o ho
  cases b with
  | false => exact (hf0 rfl).2
  | true =>
    obtain ⟨out, hd, hof⟩ := hf1 rfl
    simp only [cond] at hk
    have h5 := R.no5 i hi
    rw [hk] at he h5
    have hk01 : kindOf o.op = 0 ∨ kindOf o.op = 1 := by
      rcases kindOf_cases o.op with h | h | h | h | h <;> rw [h] at he h5 ⊢
      · exact .inl rfl
      · exact .inr rfl
      · simp [isEff] at he
      · simp [isEff] at he
      · exact (h5 rfl).elim
    rcases hk01 with h0 | h1
    · obtain ⟨⟨v, rfl⟩, _⟩ := light_same h0 hd
      exact hof.2
    · obtain ⟨v, ⟨t, x, ad, hop, hx, hl, _⟩ | ⟨t, x, ix, ok, hop, hx, hl, _⟩⟩ := R.ld i o ho (hk.trans h1)
      · unfold doOp at hd
        simp only [hop, hx, hl, Option.map_some] at hd
        cases hd
        exact hof.2
      · unfold doOp at hd
        simp only [hop, hx, hl, if_true, Option.map_some] at hd
        cases hd
        exact hof.2
theorem Ref.H_const {i j : Nat} (hij : i ≤ j) (hj : j ≤ ops.size) (h : ∀ m, i ≤ m → m < j → isEff (Kd m) = false) : Hs j = Hs i := by
  induction j with
  | zero => have : i = 0 := by omega
            subst this; rfl
  | succ j ih =>
    by_cases hx : i = j + 1
    · subst hx; rfl
    · rw [R.H_light (by omega) (h j (by omega) (by omega)), ih (by omega) (by omega) fun m hm hmj => h m hm (by omega)]
end
end Go.Eng

namespace Go.Eng
variable [Shift]
variable {p : Par} {e e' e'' : Env} {H H' : Heap} {w w' w'' : World} {Z : Tab}

/-- Numbers of blocks that are there: those ahead of operation j, and those of rows that were made early; of all, those that have a number ahead of operation x's. -/
def DL (Hs : Nat → Heap) (Kd : Nat → Nat) (k : Nat) (L : Nat → Bool) (j x b : Nat) : Prop :=
  b < (Hs x).next ∧ (b < (Hs j).next ∨ ∃ m, j ≤ m ∧ m < k ∧ isEff (Kd m) = true ∧ L m = true ∧ b = (Hs m).next)
def cur (W : Tr Nat) (T : Nat → Tr Value) (k : Nat) (L : Nat → Bool) (t : Nat) : Option Value :=
  match W.get t with | some i => if L i = true then (T k).get t else (T 0).get t | none => (T 0).get t
def tl (W : Tr Nat) (lvo : Nat → Nat) (L : Nat → Bool) (t : Nat) : Nat :=
  match W.get t with | some i => if L i = true then lvo i else 0 | none => 0
def upd (L : Nat → Bool) (i : Nat) : Nat → Bool := fun m => if m = i then true else L m

/-- A row that was made early. -/
def Pend (p : Par) (Hs : Nat → Heap) (Kd : Nat → Nat) (k : Nat) (L : Nat → Bool) (j : Nat) (s0 : Nat) (e : Env) (w : World) (m : Nat) : Prop :=
  Kd m = 2 ∧ ∃ o r, Hs (m + 1) = (Hs m).new o ∧ w.heap[e.ρ (Hs m).next]? = some r ∧ ORel p e (Hs m).next o r ∧ OUnd p (DL Hs Kd k L j (m + 1)) o ∧ s0 ≤ e.ρ (Hs m).next ∧ ¬ Own p e (Hs j) (e.ρ (Hs m).next)

structure Inv (p : Par) (W : Tr Nat) (T : Nat → Tr Value) (Hs : Nat → Heap) (Kd lvo : Nat → Nat) (k nt : Nat) (e0 : Env) (w0 : World) (ds : List Deferred) (L : Nat → Bool) (j : Nat) (e : Env) (a : Act) (w : World) : Prop where
  jk : j ≤ k
  lead : ∀ m, m < j → isEff (Kd m) = true → L m = true
  step : Step p e0 (Hs 0) w0 e (Hs j) w
  size : a.tmps.size = nt
  dfs : a.defers = ds
  val : ∀ t v, cur W T k L t = some v → a.tmps[t]? = some (ren e v) ∧ Und (DL Hs Kd k L j (tl W lvo L t)) v
  pend : ∀ m, j ≤ m → m < k → isEff (Kd m) = true → L m = true → Pend p Hs Kd k L j w0.heap.size e w m
  pinj : ∀ m m', j ≤ m → m < k → isEff (Kd m) = true → L m = true → j ≤ m' → m' < k → isEff (Kd m') = true → L m' = true → e.ρ (Hs m).next = e.ρ (Hs m').next → m = m'

section
variable {C : Calls3} {nt : Nat} {ops : Array Oper} {A W : Tr Nat} {T : Nat → Tr Value} {Hs : Nat → Heap} {Kd lvo hi lo : Nat → Nat}
variable {e0 : Env} {w0 : World} {ds : List Deferred} {L : Nat → Bool} {j : Nat} {a : Act}
variable (R : Ref Z p.G C nt ops A W T Hs Kd lvo hi lo)
include R

theorem Ref.H_new {m : Nat} (hm : m < ops.size) (hk : Kd m = 2) : (Hs m).next < (Hs (m + 1)).next := by
  obtain ⟨o, ho⟩ := R.get hm
  obtain ⟨b, hb, hk', hf0, hf1⟩ := R.fact m o ho
  cases b with
  | false => rw [hk] at hk'; cases hk'
  | true =>
    obtain ⟨out, hd, hof⟩ := hf1 rfl
    obtain ⟨⟨v, cells, el, rfl⟩, _⟩ := bs_indep (hk'.symm.trans hk) hd rfl
    rw [hof.2]
    show (Hs m).next < (Hs m).next + 1
    omega

/-- One operation further. -/
theorem Ref.promote (hB : p.B ≤ w0.heap.size) (h : Inv p W T Hs Kd lvo ops.size nt e0 w0 ds L j e a w) (hj : j < ops.size) (hL : isEff (Kd j) = true → L j = true) :
    Inv p W T Hs Kd lvo ops.size nt e0 w0 ds L (j + 1) e a w := by
  have hle := R.mono j hj
  have hDL : ∀ x b, DL Hs Kd ops.size L j x b → DL Hs Kd ops.size L (j + 1) x b := by
    rintro x b ⟨h1, h2⟩
    refine ⟨h1, ?_⟩
    rcases h2 with h2 | ⟨m, h3, h4, h5, h6, rfl⟩
    · exact .inl (by omega)
    · by_cases hm : m = j
      · subst hm
        obtain ⟨hk2, _⟩ := h.pend m (Nat.le_refl _) h4 h5 h6
        exact .inl (R.H_new h4 hk2)
      · exact .inr ⟨m, by omega, h4, h5, h6, rfl⟩
  have hstep : Step p e0 (Hs 0) w0 e (Hs (j + 1)) w ∧ ∀ r, Own p e (Hs (j + 1)) r → Own p e (Hs j) r ∨ (isEff (Kd j) = true ∧ r = e.ρ (Hs j).next) := by
    cases he : isEff (Kd j) with
    | false => rw [R.H_light hj he]; exact ⟨h.step, fun r hr => .inl hr⟩
    | true =>
      obtain ⟨hk2, o, r, hn, hr, ho, hu, hf, hno⟩ := h.pend j (Nat.le_refl _) hj he (hL he)
      have hgh := R.gh j (by omega)
      have hsm := R.small j (by omega)
      rw [hn]
      refine ⟨Step.promote hB h.step hr ho (hu.mono ?_) hf hno (by omega), ?_⟩
      · rintro b ⟨h1, _⟩
        rw [hn] at h1
        exact ⟨h1, by show b ∉ (Hs j).ghost; rw [hgh]; simp⟩
      · rintro r' ⟨b, o', hb, hn', rfl⟩
        rw [Heap.get_new _ _ _ (by omega)] at hb
        split at hb
        · rename_i hbn; exact .inr ⟨rfl, by rw [hbn]⟩
        · exact .inl ⟨b, o', hb, hn', rfl⟩
  refine ⟨by omega, ?_, hstep.1, h.size, h.dfs, ?_, ?_, ?_⟩
  · intro m hm hem
    by_cases hmj : m = j
    · subst hmj; exact hL hem
    · exact h.lead m (by omega) hem
  · intro t v hv
    obtain ⟨h1, h2⟩ := h.val t v hv
    exact ⟨h1, h2.mono (hDL _)⟩
  · intro m hm hmk hem hLm
    obtain ⟨h1, o, r, h2, h3, h4, h5, h6, h7⟩ := h.pend m (by omega) hmk hem hLm
    refine ⟨h1, o, r, h2, h3, h4, h5.mono (hDL _), h6, fun hown => ?_⟩
    rcases hstep.2 _ hown with h8 | ⟨h8, h9⟩
    · exact h7 h8
    · have := h.pinj m j (by omega) hmk hem hLm (Nat.le_refl _) hj h8 (hL h8) h9
      omega
  · intro m m' h1 h2 h3 h4 h5 h6 h7 h8 h9
    exact h.pinj m m' (by omega) h2 h3 h4 (by omega) h6 h7 h8 h9

theorem Ref.promoteTo (hB : p.B ≤ w0.heap.size) (x : Nat) (hx : x ≤ ops.size) (hL : ∀ m, m < x → isEff (Kd m) = true → L m = true) (h : Inv p W T Hs Kd lvo ops.size nt e0 w0 ds L j e a w) :
    ∃ j', j ≤ j' ∧ x ≤ j' ∧ (j' = x ∨ j' = j) ∧ Inv p W T Hs Kd lvo ops.size nt e0 w0 ds L j' e a w := by
  by_cases hjx : x ≤ j
  · exact ⟨j, Nat.le_refl _, hjx, .inr rfl, h⟩
  · obtain ⟨d, hd⟩ : ∃ d, x = j + d := ⟨x - j, by omega⟩
    subst hd
    suffices ∀ d', d' ≤ d → Inv p W T Hs Kd lvo ops.size nt e0 w0 ds L (j + d') e a w from ⟨j + d, by omega, Nat.le_refl _, .inl rfl, this d (Nat.le_refl _)⟩
    intro d'
    induction d' with
    | zero => intro _; exact h
    | succ d' ih =>
      intro hd'
      have h1 : j + d' < ops.size := by omega
      exact R.promote hB (ih (by omega)) h1 (hL (j + d') (by omega))

/-- What an operation sees of a temporary. -/
theorem Ref.see (hnt : nt ≤ 2 ^ 30) {i : Nat} (hi' : i < ops.size) (hLi : L i = false) (hcl : ∀ m, m < ops.size → L m = true → ∀ q, bitA A m q = true → L q = true) (hanc : ∀ q, bitA A i q = true → L q = true)
    {t : Nat} (hc : ∀ q, W.get t = some q → (q < i → bitA A i q = true) ∧ (i < q → bitA A q i = true)) : cur W T ops.size L t = (T i).get t := by
  unfold cur
  cases hW : W.get t with
  | none => exact (R.T_none hnt hW i (by omega)).symm
  | some q =>
    obtain ⟨o', ho', _⟩ := R.wr' t q hW
    have hq : q < ops.size := (Array.getElem?_eq_some_iff.1 ho').1
    simp only
    by_cases hqi : q < i
    · rw [if_pos (hanc q ((hc q hW).1 hqi))]
      exact R.T_behind hnt hW i ops.size hqi (by omega) (Nat.le_refl _)
    · have : L q ≠ true := by
        intro hLq
        by_cases hqe : q = i
        · subst hqe; rw [hLi] at hLq; cases hLq
        · have := hcl q hq hLq i ((hc q hW).2 (by omega))
          rw [hLi] at this; cases this
      rw [if_neg this]
      exact (R.T_ahead hnt hW i (by omega) (by omega)).symm

theorem Ref.lp_le (i : Nat) (hi' : i < ops.size) : cond (isEff (Kd i)) i (hi i) ≤ ops.size := by
  cases isEff (Kd i) with
  | true => exact Nat.le_of_lt hi'
  | false => exact (R.hiE i).1

/-- What an operation sees. -/
theorem Ref.erel (hnt : nt ≤ 2 ^ 30) (h0 : Rel p e0 (Hs 0) w0) (h : Inv p W T Hs Kd lvo ops.size nt e0 w0 ds L j e a w) {i : Nat} {o : Oper} (ho : ops[i]? = some o) (hLi : L i = false)
    (hcl : ∀ m, m < ops.size → L m = true → ∀ q, bitA A m q = true → L q = true) (hanc : ∀ q, bitA A i q = true → L q = true) :
    ERel (fun x => operandOk p.G x && @decide (x ∈ o.op.operands.toList) (Classical.propDecidable _)) e (DL Hs Kd ops.size L j (cond (isEff (Kd i)) i (hi i))) (ev (T i)) a.eval := by
  have hi' : i < ops.size := (Array.getElem?_eq_some_iff.1 ho).1
  intro x hx hk
  simp only [Bool.and_eq_true, decide_eq_true_eq] at hx
  obtain ⟨hxo, hxm⟩ := hx
  cases x with
  | tmp t =>
    simp only [ev] at hk ⊢
    have hchk := R.chkO i o ho _ hxm t rfl
    cases ht : (T i).get t with
    | none => rw [ht] at hk; simp [unknown, known] at hk
    | some v =>
      simp only [Option.getD_some]
      have hcur := R.see hnt hi' hLi hcl hanc (t := t) fun q hq => ⟨fun hqi => ((hchk q hq).1 hqi).1, (hchk q hq).2⟩
      obtain ⟨h1, h2⟩ := h.val t v (by rw [hcur]; exact ht)
      refine ⟨by simp [Act.eval, h1], h2.mono ?_⟩
      rintro b ⟨hb1, hb2⟩
      refine ⟨Nat.lt_of_lt_of_le hb1 (R.next_le ?_ (R.lp_le i hi')), hb2⟩
      unfold tl
      cases hW : W.get t with
      | none => exact Nat.zero_le _
      | some q =>
        simp only
        split
        · rename_i hLq
          by_cases hqi : q < i
          · exact ((hchk q hW).1 hqi).2
          · exfalso
            by_cases hqe : q = i
            · subst hqe; rw [hLi] at hLq; cases hLq
            · obtain ⟨o', ho', _⟩ := R.wr' t q hW
              have := hcl q (Array.getElem?_eq_some_iff.1 ho').1 hLq i ((hchk q hW).2 (by omega))
              rw [hLi] at this; cases this
        · exact Nat.zero_le _
  | const v =>
    simp only [operandOk] at hxo
    exact ⟨by simp only [Act.eval, ev]; rw [ren_plain 3 v hxo], und_plain hxo⟩
  | global g =>
    simp only [operandOk, Nat.blt_eq] at hxo
    have h1 := h.step.rel.glo g hxo
    have h2 := h0.gn
    have h3 := h0.nxt
    have h4 := R.next_le (Nat.zero_le j) h.jk
    have h5 := R.next_le (Nat.zero_le _) (R.lp_le i hi')
    exact ⟨by simp [Act.eval, ev, Env.addr, h1.1, h.step.rel.shiftG hxo], und_ptr ⟨by simp; omega, .inl (by simp; omega)⟩⟩
  | func f => exact ⟨by simp [Act.eval, ev, renFn], und_func (fun _ _ _ => rfl) (by simp) (by simp)⟩

/-- The world behind an operation, and what it has written. -/
theorem Ref.after (hnt : nt ≤ 2 ^ 30) (h : Inv p W T Hs Kd lvo ops.size nt e0 w0 ds L j e a w) {i : Nat} {o : Oper} (ho : ops[i]? = some o) {j1 : Nat} (hj1 : j ≤ j1) (hjk : j1 ≤ ops.size) {e1 : Env} {w1 : World} {v : Value}
    (hst : Step p e0 (Hs 0) w0 e1 (Hs j1) w1) (hlead : ∀ m, m < j1 → isEff (Kd m) = true → upd L i m = true)
    (hag : ∀ x b, DL Hs Kd ops.size L j x b → e.ρ b = e1.ρ b ∧ e.σ b = e1.σ b) (hres : ∀ d, o.dst = some d → (T (i + 1)).get d = some v) (hu : Und (DL Hs Kd ops.size (upd L i) j1 (lvo i)) v)
    (hpend : ∀ m, j1 ≤ m → m < ops.size → isEff (Kd m) = true → upd L i m = true → Pend p Hs Kd ops.size (upd L i) j1 w0.heap.size e1 w1 m)
    (hpinj : ∀ m m', j1 ≤ m → m < ops.size → isEff (Kd m) = true → upd L i m = true → j1 ≤ m' → m' < ops.size → isEff (Kd m') = true → upd L i m' = true → e1.ρ (Hs m).next = e1.ρ (Hs m').next → m = m') :
    Inv p W T Hs Kd lvo ops.size nt e0 w0 ds (upd L i) j1 e1 (a.put o.dst (ren e1 v)) w1 := by
  have hi' : i < ops.size := (Array.getElem?_eq_some_iff.1 ho).1
  have hok := R.ok i o ho
  refine ⟨hjk, hlead, hst, ?_, ?_, ?_, hpend, hpinj⟩
  · cases hd : o.dst with
    | none => exact h.size
    | some d => simp [Act.put, h.size]
  · cases hd : o.dst with
    | none => exact h.dfs
    | some d => exact h.dfs
  · intro t u hcu
    by_cases htd : o.dst = some t
    · have hW := R.wr i o t ho htd
      simp only [cur, hW, upd, if_true] at hcu
      rw [R.T_behind hnt hW (i + 1) ops.size (by omega) (by omega) (Nat.le_refl _), hres t htd] at hcu
      cases hcu
      have htn : t < nt := by
        simp only [opOk, htd, Bool.and_eq_true] at hok
        exact Nat.blt_eq.mp hok.1
      refine ⟨?_, ?_⟩
      · rw [htd]
        have htn' : t < a.tmps.size := by rw [h.size]; exact htn
        simp [Act.put, htn']
      · simp only [tl, hW, upd, if_true]
        exact hu
    · have hWi : W.get t ≠ some i := by
        intro hW
        obtain ⟨o', ho', hd'⟩ := R.wr' t i hW
        rw [ho] at ho'
        cases ho'
        exact htd hd'
      have hcu' : cur W T ops.size L t = some u := by
        rw [← hcu]
        unfold cur
        cases hW : W.get t with
        | none => rfl
        | some q =>
          have : q ≠ i := fun hq => hWi (by rw [hW, hq])
          simp [upd, this]
      have htl : tl W lvo (upd L i) t = tl W lvo L t := by
        unfold tl
        cases hW : W.get t with
        | none => rfl
        | some q =>
          have : q ≠ i := fun hq => hWi (by rw [hW, hq])
          simp [upd, this]
      obtain ⟨h1, h2⟩ := h.val t u hcu'
      refine ⟨?_, ?_⟩
      · have : (a.put o.dst (ren e1 v)).tmps[t]? = a.tmps[t]? := by
          cases hd : o.dst with
          | none => rfl
          | some d =>
            have : d ≠ t := fun hdt => htd (by rw [hd, hdt])
            simp only [Act.put]
            rw [Array.getElem?_setIfInBounds_ne this]
        rw [this, h1, h2 e e1 (hag _)]
      · rw [htl]
        refine h2.mono ?_
        rintro b ⟨hb1, hb2⟩
        refine ⟨hb1, ?_⟩
        rcases hb2 with hb2 | ⟨m, h3, h4, h5, h6, rfl⟩
        · exact .inl (Nat.lt_of_lt_of_le hb2 (R.next_le hj1 hjk))
        · by_cases hm : m < j1
          · obtain ⟨hk2, _⟩ := h.pend m h3 h4 h5 h6
            exact .inl (Nat.lt_of_lt_of_le (R.H_new h4 hk2) (R.next_le (by omega) hjk))
          · exact .inr ⟨m, by omega, h4, h5, by simp only [upd]; split <;> first | rfl | exact h6, rfl⟩
end
end Go.Eng

namespace Go.Eng
variable [Shift]
variable {p : Par} {e e' e'' : Env} {H H' : Heap} {w w' w'' : World} {Z : Tab}

theorem Rel.bare (h : Rel p e H w) {n : Nat} {g : List Nat} (hn : p.N0 ≤ n) (hs : n + 1 < 2 ^ 40) (hg : ∀ b ∈ g, p.N0 ≤ b ∧ b < n) : Rel p e ⟨.e, n, g⟩ w := by
  have hget : ∀ b, Heap.get ⟨.e, n, g⟩ b = none := fun b => by simp [Heap.get, Tr.get_e]
  refine ⟨fun b o hb => ?_, fun b o hb => ?_, fun b o hb => ?_, fun b b' o o' hb => ?_, h.glo, fun b o hb => ?_, h.siz, hn, h.gn, hs, hg, h.fix, fun b hb => ⟨(h.sft b hb).1, (h.sft b hb).2.1, hget b⟩⟩
  all_goals rw [hget] at hb; cases hb

open Classical in
/-- A heap that says nothing but which numbers there are. -/
noncomputable def bareH (Hs : Nat → Heap) (Kd : Nat → Nat) (k : Nat) (L : Nat → Bool) (j x : Nat) : Heap :=
  ⟨.e, (Hs x).next, (List.range (Hs x).next).filter fun b => decide (¬ DL Hs Kd k L j x b)⟩
theorem bareH_D (Hs : Nat → Heap) (Kd : Nat → Nat) (k : Nat) (L : Nat → Bool) (j x : Nat) : (bareH Hs Kd k L j x).D = DL Hs Kd k L j x := by
  funext b
  apply propext
  simp only [Heap.D, bareH, List.mem_filter, List.mem_range, decide_eq_true_eq, not_and, Classical.not_not]
  exact ⟨fun h => h.2 h.1, fun h => ⟨h.1, fun _ => h⟩⟩

theorem wantedA_sound2 {T : Tr Value} {a : Act} {o : Oper} {ops : Array Oper} {b : Bool}
    (hg : ∀ g c d, o.guard = some (g, c) → (ops[g]?).bind (·.dst) = some d → ∀ v, T.get d = some v → a.tmps[d]? = some (ren e v)) (hw : wantedA o ops T = some b) : Region.wanted o (yielded ops a.tmps) = b := by
  simp only [wantedA] at hw
  simp only [Region.wanted]
  split at hw
  · rename_i hg; rw [hg]; cases hw; rfl
  · rename_i j want hgd
    rw [hgd]
    simp only
    split at hw
    · cases hw
    · rename_i d hd
      simp only [yielded, hd, Option.bind_some]
      split at hw
      · rename_i c hc
        cases hw
        have := hg j want d hgd hd _ hc
        simp only [ren_bool] at this
        rw [this]
        cases c <;> cases want <;> rfl
      · rename_i v hne hv
        cases hw
        have := hg j want d hgd hd v hv
        rw [this]
        have : ∀ c, ren e v ≠ .bool c := fun c hc => hne c (ren_bool_inv hc)
        split
        · rename_i c hc
          exact (this c (Option.some.inj hc)).elim
        · rfl
      · cases hw

section
variable {C : Calls3} {nt : Nat} {ops : Array Oper} {A W : Tr Nat} {T : Nat → Tr Value} {Hs : Nat → Heap} {Kd lvo hi lo : Nat → Nat}
variable {e0 : Env} {w0 : World} {ds : List Deferred} {L : Nat → Bool} {j : Nat} {a : Act}
variable (R : Ref Z p.G C nt ops A W T Hs Kd lvo hi lo)
include R

theorem Ref.bareRel (h0 : Rel p e0 (Hs 0) w0) (h : Inv p W T Hs Kd lvo ops.size nt e0 w0 ds L j e a w) {x : Nat} (hx : x ≤ ops.size) : Rel p e (bareH Hs Kd ops.size L j x) w := by
  have h1 := h0.nxt
  have h2 := R.next_le (Nat.zero_le x) hx
  have h3 := R.next_le (Nat.zero_le j) h.jk
  have h4 := R.small x hx
  refine h.step.rel.bare (by omega) (by omega) ?_
  intro b hb
  obtain ⟨hb1, hb2⟩ := List.mem_filter.1 hb
  simp only [decide_eq_true_eq] at hb2
  have hb1 := List.mem_range.1 hb1
  refine ⟨?_, hb1⟩
  by_cases hbj : b < (Hs j).next
  · exact (hb2 ⟨hb1, .inl hbj⟩).elim
  · omega

theorem Ref.DL_upd {i : Nat} {x b : Nat} (h : DL Hs Kd ops.size L j x b) : DL Hs Kd ops.size (upd L i) j x b := by
  obtain ⟨h1, h2⟩ := h
  refine ⟨h1, ?_⟩
  rcases h2 with h2 | ⟨m, h3, h4, h5, h6, h7⟩
  · exact .inl h2
  · exact .inr ⟨m, h3, h4, h5, by simp only [upd]; split <;> first | rfl | exact h6, h7⟩

/-- An operation that memory plays no part in. -/
theorem Ref.lightAfter (hnt : nt ≤ 2 ^ 30) (h : Inv p W T Hs Kd lvo ops.size nt e0 w0 ds L j e a w) {i : Nat} {o : Oper} (ho : ops[i]? = some o) (he : isEff (Kd i) = false) {w1 : World} {v : Value}
    (hk : ∀ r, r < w.heap.size → w1.heap[r]? = w.heap[r]?) (hs : w.heap.size ≤ w1.heap.size) (ht : w1.tape = w.tape) (hos : w1.os = w.os) (hout : w1.output = w.output)
    (hres : ∀ d, o.dst = some d → (T (i + 1)).get d = some v) (hu : Und (DL Hs Kd ops.size L j (hi i)) v) :
    Inv p W T Hs Kd lvo ops.size nt e0 w0 ds (upd L i) j e (a.put o.dst (ren e v)) w1 := by
  have hi' : i < ops.size := (Array.getElem?_eq_some_iff.1 ho).1
  have hLm : ∀ m, isEff (Kd m) = true → upd L i m = true → L m = true := by
    intro m hm hL
    simp only [upd] at hL
    split at hL
    · rename_i hmi; subst hmi; rw [he] at hm; cases hm
    · exact hL
  refine R.after hnt h ho (Nat.le_refl _) h.jk (h.step.ext hk hs ht hos hout) ?_ (fun _ _ _ => ⟨rfl, rfl⟩) hres ?_ ?_ ?_
  · intro m hm hem
    have := h.lead m hm hem
    simp only [upd]; split <;> first | rfl | exact this
  · have := R.lvE i hi'
    rw [he] at this
    rw [show lvo i = hi i from this]
    exact hu.mono fun b hb => R.DL_upd hb
  · intro m hm hmk hem hL
    obtain ⟨h1, o', r, h2, h3, h4, h5, h6, h7⟩ := h.pend m hm hmk hem (hLm m hem hL)
    exact ⟨h1, o', r, h2, by rw [hk _ (Array.getElem?_eq_some_iff.1 h3).1]; exact h3, h4, h5.mono fun b hb => R.DL_upd hb, h6, h7⟩
  · intro m m' h1 h2 h3 h4 h5 h6 h7 h8 h9
    exact h.pinj m m' h1 h2 h3 (hLm m h3 h4) h5 h6 h7 (hLm m' h7 h8) h9

theorem Ref.resOf {i : Nat} {o : Oper} (ho : ops[i]? = some o) (hnt : nt ≤ 2 ^ 30) {v : Value} (hT : T (i + 1) = putA (T i) o.dst v) : ∀ d, o.dst = some d → (T (i + 1)).get d = some v := by
  intro d hd
  have hok := R.ok i o ho
  simp only [opOk, hd, Bool.and_eq_true] at hok
  have hdn : d < nt := Nat.blt_eq.mp hok.1
  rw [hT, hd]
  simp only [putA]
  rw [Tr.get_set _ _ _ _ (by have : @LT.lt Nat _ d nt := hdn; omega), if_pos rfl]

/-- A row that is made early, or in its time. -/
theorem Ref.rowAfter (hnt : nt ≤ 2 ^ 30) (h0 : Rel p e0 (Hs 0) w0) (h : Inv p W T Hs Kd lvo ops.size nt e0 w0 ds L j e a w) {i : Nat} {o : Oper} (ho : ops[i]? = some o) (hk2 : Kd i = 2) (hLi : L i = false)
    {e1 : Env} {w1 : World} {v : Value} {ob : AObj} (hn : Hs (i + 1) = (Hs i).new ob) (hst : Step p e (bareH Hs Kd ops.size L j i) w e1 ((bareH Hs Kd ops.size L j i).new ob) w1)
    (hres : ∀ d, o.dst = some d → (T (i + 1)).get d = some v) (hu : Und ((bareH Hs Kd ops.size L j i).new ob).D v) :
    ∃ e2, ren e2 v = ren e1 v ∧ Inv p W T Hs Kd lvo ops.size nt e0 w0 ds (upd L i) j e2 (a.put o.dst (ren e2 v)) w1 := by
  have hi' : i < ops.size := (Array.getElem?_eq_some_iff.1 ho).1
  have hei : isEff (Kd i) = true := by rw [hk2]; rfl
  have hji : j ≤ i := by
    by_cases hx : j ≤ i
    · exact hx
    · have := h.lead i (by omega) hei
      rw [hLi] at this; cases this
  have hsm := R.small i (Nat.le_of_lt hi')
  have hB : (bareH Hs Kd ops.size L j i).next = (Hs i).next := rfl
  -- the new block
  have hget : ((bareH Hs Kd ops.size L j i).new ob).get (Hs i).next = some ob := by
    rw [Heap.get_new _ _ _ (by rw [hB]; omega), if_pos hB.symm]
  obtain ⟨r, hr, hor⟩ := hst.rel.obj _ _ hget
  have hou := hst.rel.und _ _ hget
  have hempty : ∀ r, ¬ Own p e (bareH Hs Kd ops.size L j i) r := by
    rintro r ⟨b, o', hb, _⟩
    simp [bareH, Heap.get, Tr.get_e] at hb
  have hN0 : p.N0 ≤ (Hs i).next := by
    have h1 := h0.nxt
    have h2 := R.next_le (Nat.zero_le i) (Nat.le_of_lt hi')
    omega
  have hfresh : w.heap.size ≤ e1.ρ (Hs i).next := by
    rcases hst.own _ ⟨_, _, hget, hN0, rfl⟩ with hx | hx
    · exact (hempty _ hx).elim
    · exact hx
  have hkeep : ∀ r, r < w.heap.size → w1.heap[r]? = w.heap[r]? := fun r hr => hst.keep r hr (hempty r)
  let e2 : Env := ⟨fun b => if b = (Hs i).next then e1.ρ b else e.ρ b, fun b => if b = (Hs i).next then e1.σ b else e.σ b⟩
  have hDne : ∀ x b, DL Hs Kd ops.size L j x b → b ≠ (Hs i).next := by
    rintro x b ⟨_, h2⟩ rfl
    rcases h2 with h2 | ⟨m, h3, h4, h5, h6, h7⟩
    · have := R.next_le hji (Nat.le_of_lt hi'); omega
    · obtain ⟨hm2, _⟩ := h.pend m h3 h4 h5 h6
      have hmi : m ≠ i := fun hx => by subst hx; rw [hLi] at h6; cases h6
      by_cases hlt : m < i
      · have h8 := R.H_new h4 hm2
        have h9 := R.next_le (i := m + 1) (j := i) (by omega) (Nat.le_of_lt hi')
        omega
      · have h8 := R.H_new hi' hk2
        have h9 := R.next_le (i := i + 1) (j := m) (by omega) (by omega)
        omega
  have hag : ∀ x b, DL Hs Kd ops.size L j x b → e.ρ b = e2.ρ b ∧ e.σ b = e2.σ b := by
    intro x b hb
    have := hDne x b hb
    simp [e2, this]
  have hag1 : Agree ((bareH Hs Kd ops.size L j i).new ob).D e1 e2 := by
    intro b hb
    by_cases hbn : b = (Hs i).next
    · simp [e2, hbn]
    · have hb' : (bareH Hs Kd ops.size L j i).D b := by
        refine ⟨?_, hb.2⟩
        have : b < (Hs i).next + 1 := hb.1
        show b < (Hs i).next
        omega
      have := hst.agree b hb'
      simp [e2, hbn, this.1, this.2]
  have hDnew : ∀ b, ((bareH Hs Kd ops.size L j i).new ob).D b → DL Hs Kd ops.size (upd L i) j (i + 1) b := by
    intro b hb
    have hnx : (Hs (i + 1)).next = (Hs i).next + 1 := by rw [hn]; rfl
    have hb1 : b < (Hs i).next + 1 := hb.1
    refine ⟨by omega, ?_⟩
    by_cases hbn : b = (Hs i).next
    · exact .inr ⟨i, hji, hi', hei, by simp [upd], hbn⟩
    · have hb' : (bareH Hs Kd ops.size L j i).D b := ⟨by show b < (Hs i).next; omega, hb.2⟩
      rw [bareH_D] at hb'
      exact (R.DL_upd hb').2
  have hstep : Step p e0 (Hs 0) w0 e2 (Hs j) w1 := by
    refine (h.step.congr ?_).ext hkeep hst.size hst.tape hst.os hst.output
    intro b hb
    have hle := R.next_le hji (Nat.le_of_lt hi')
    exact hag j b ⟨hb.1, .inl hb.1⟩
  have hownc : ∀ r, Own p e2 (Hs j) r → Own p e (Hs j) r := fun r hr => Own.congr h.step.rel (fun b hb => hag j b ⟨hb.1, .inl hb.1⟩) hr
  have hρi : e2.ρ (Hs i).next = e1.ρ (Hs i).next := by simp [e2]
  refine ⟨e2, (hu.eq hag1).symm, R.after hnt h ho (Nat.le_refl _) h.jk hstep ?_ hag hres ?_ ?_ ?_⟩
  · intro m hm hem
    have := h.lead m hm hem
    simp only [upd]; split <;> first | rfl | exact this
  · have := R.lvE i hi'
    rw [hei] at this
    rw [show lvo i = i + 1 from this]
    exact hu.mono hDnew
  · intro m hm hmk hem hL
    by_cases hmi : m = i
    · subst hmi
      refine ⟨hk2, ob, r, hn, ?_, ?_, ?_, ?_, ?_⟩
      · rw [hρi]; exact hr
      · exact hor.agree hou (hst.rel.lt _ _ hget) hag1
      · exact hou.mono hDnew
      · rw [hρi]; have := h.step.size; omega
      · intro hown
        obtain ⟨b, o', hb, hnb, hbr⟩ := hownc _ hown
        rw [hρi] at hbr
        obtain ⟨r', hr', _⟩ := h.step.rel.obj b o' hb
        have := (Array.getElem?_eq_some_iff.1 hr').1
        omega
    · have hLm : L m = true := by simpa [upd, hmi] using hL
      obtain ⟨h1, o', r', h2, h3, h4, h5, h6, h7⟩ := h.pend m hm hmk hem hLm
      have hbm : DL Hs Kd ops.size L j (m + 1) (Hs m).next := ⟨R.H_new hmk h1, .inr ⟨m, hm, hmk, hem, hLm, rfl⟩⟩
      have hρm : e2.ρ (Hs m).next = e.ρ (Hs m).next := (hag _ _ hbm).1.symm
      refine ⟨h1, o', r', h2, ?_, ?_, h5.mono fun b hb => R.DL_upd hb, by rw [hρm]; exact h6, fun hown => h7 (by rw [hρm] at hown; exact hownc _ hown)⟩
      · rw [hρm, hkeep _ (Array.getElem?_eq_some_iff.1 h3).1]; exact h3
      · exact h4.agree (n := DL Hs Kd ops.size L j (m + 1)) h5 hbm fun b hb => hag _ b hb
  · have hpi : ∀ m, j ≤ m → m < ops.size → isEff (Kd m) = true → upd L i m = true → m ≠ i → e2.ρ (Hs m).next < w.heap.size ∧ L m = true ∧ e2.ρ (Hs m).next = e.ρ (Hs m).next := by
      intro m hm hmk hem hL hmi
      have hLm : L m = true := by simpa [upd, hmi] using hL
      obtain ⟨h1, o', r', h2, h3, h4, h5, h6, h7⟩ := h.pend m hm hmk hem hLm
      have hbm : DL Hs Kd ops.size L j (m + 1) (Hs m).next := ⟨R.H_new hmk h1, .inr ⟨m, hm, hmk, hem, hLm, rfl⟩⟩
      have hρm : e2.ρ (Hs m).next = e.ρ (Hs m).next := (hag _ _ hbm).1.symm
      exact ⟨by rw [hρm]; exact (Array.getElem?_eq_some_iff.1 h3).1, hLm, hρm⟩
    intro m m' h1 h2 h3 h4 h5 h6 h7 h8 h9
    by_cases hmi : m = i <;> by_cases hmi' : m' = i
    · rw [hmi, hmi']
    · subst hmi
      have := (hpi m' h5 h6 h7 h8 hmi').1
      rw [hρi] at h9; omega
    · subst hmi'
      have := (hpi m h1 h2 h3 h4 hmi).1
      rw [hρi] at h9; omega
    · obtain ⟨_, ha, hb⟩ := hpi m h1 h2 h3 h4 hmi
      obtain ⟨_, hc, hd⟩ := hpi m' h5 h6 h7 h8 hmi'
      exact h.pinj m m' h1 h2 h3 ha h5 h6 h7 hc (by rw [← hb, ← hd]; exact h9)
end
end Go.Eng

namespace Go.Eng
variable [Shift]
variable {p : Par} {e e' e'' : Env} {H H' : Heap} {w w' w'' : World} {Z : Tab}

section
variable {C : Calls3} {nt : Nat} {ops : Array Oper} {A W : Tr Nat} {T : Nat → Tr Value} {Hs : Nat → Heap} {Kd lvo hi lo : Nat → Nat}
variable {e0 : Env} {w0 : World} {ds : List Deferred} {L : Nat → Bool} {j : Nat} {a : Act}
variable (R : Ref Z p.G C nt ops A W T Hs Kd lvo hi lo)
include R

theorem Ref.effectAfter (hnt : nt ≤ 2 ^ 30) {i : Nat} (h : Inv p W T Hs Kd lvo ops.size nt e0 w0 ds L i e a w) {o : Oper} (ho : ops[i]? = some o) (hk3 : isEff (Kd i) = true) (hLi : L i = false)
    {e1 : Env} {w1 : World} {v : Value} (hst : Step p e (Hs i) w e1 (Hs (i + 1)) w1) (hres : ∀ d, o.dst = some d → (T (i + 1)).get d = some v) (hu : Und (Hs (i + 1)).D v) :
    ∃ e2, ren e2 v = ren e1 v ∧ Inv p W T Hs Kd lvo ops.size nt e0 w0 ds (upd L i) (i + 1) e2 (a.put o.dst (ren e2 v)) w1 := by
  have hi' : i < ops.size := (Array.getElem?_eq_some_iff.1 ho).1
  have hle := R.mono i hi'
  have hgh := R.gh i (Nat.le_of_lt hi')
  let e2 : Env := ⟨fun b => if b < (Hs (i + 1)).next then e1.ρ b else e.ρ b, fun b => if b < (Hs (i + 1)).next then e1.σ b else e.σ b⟩
  have hmi : ∀ m, i ≤ m → L m = true → i + 1 ≤ m := by
    intro m hm hL
    have : m ≠ i := fun hx => by subst hx; rw [hLi] at hL; cases hL
    omega
  have hag : ∀ x b, DL Hs Kd ops.size L i x b → e.ρ b = e2.ρ b ∧ e.σ b = e2.σ b := by
    rintro x b ⟨_, h2⟩
    rcases h2 with h2 | ⟨m, h3, h4, h5, h6, rfl⟩
    · have := hst.agree b ⟨h2, by rw [hgh]; simp⟩
      have hb : b < (Hs (i + 1)).next := by omega
      simp [e2, hb, this.1, this.2]
    · have := R.next_le (hmi m h3 h6) (Nat.le_of_lt h4)
      have hb : ¬ (Hs m).next < (Hs (i + 1)).next := by omega
      simp [e2, hb]
  have hag1 : Agree (Hs (i + 1)).D e1 e2 := fun b hb => by
    have : b < (Hs (i + 1)).next := hb.1
    simp [e2, this]
  have hmono : ∀ x b, DL Hs Kd ops.size L i x b → DL Hs Kd ops.size (upd L i) (i + 1) x b := by
    rintro x b ⟨h1, h2⟩
    refine ⟨h1, ?_⟩
    rcases h2 with h2 | ⟨m, h3, h4, h5, h6, rfl⟩
    · exact .inl (by omega)
    · exact .inr ⟨m, hmi m h3 h6, h4, h5, by simp only [upd]; split <;> first | rfl | exact h6, rfl⟩
  have hLm : ∀ m, i + 1 ≤ m → upd L i m = true → L m = true := by
    intro m hm hL
    have : m ≠ i := by omega
    simpa [upd, this] using hL
  have hstep := (h.step.trans hst).congr hag1
  have hpe : ∀ m, i + 1 ≤ m → m < ops.size → isEff (Kd m) = true → upd L i m = true → e2.ρ (Hs m).next = e.ρ (Hs m).next := by
    intro m hm hmk hem hL
    obtain ⟨h1, _⟩ := h.pend m (by omega) hmk hem (hLm m hm hL)
    exact ((hag (m + 1) _ ⟨R.H_new hmk h1, .inr ⟨m, by omega, hmk, hem, hLm m hm hL, rfl⟩⟩).1).symm
  refine ⟨e2, (hu.eq hag1).symm, R.after hnt h ho (by omega) (by omega) hstep ?_ hag hres ?_ ?_ ?_⟩
  · intro m hm hem
    by_cases hx : m = i
    · simp [upd, hx]
    · have := h.lead m (by omega) hem
      simp [upd, hx, this]
  · have := R.lvE i hi'
    rw [hk3] at this
    rw [show lvo i = i + 1 from this]
    exact hu.mono fun b hb => ⟨hb.1, .inl hb.1⟩
  · intro m hm hmk hem hL
    obtain ⟨h1, o', r', h2, h3, h4, h5, h6, h7⟩ := h.pend m (by omega) hmk hem (hLm m hm hL)
    have hρm := hpe m hm hmk hem hL
    have hin := (Array.getElem?_eq_some_iff.1 h3).1
    refine ⟨h1, o', r', h2, ?_, ?_, h5.mono (hmono _), by rw [hρm]; exact h6, ?_⟩
    · rw [hρm, hst.keep _ hin h7]; exact h3
    · exact h4.agree (n := DL Hs Kd ops.size L i (m + 1)) h5 ⟨R.H_new hmk h1, .inr ⟨m, by omega, hmk, hem, hLm m hm hL, rfl⟩⟩ fun b hb => hag _ b hb
    · rw [hρm]
      intro hown
      rcases hst.own _ (Own.congr hst.rel hag1 hown) with hx | hx
      · exact h7 hx
      · omega
  · intro m m' h1 h2 h3 h4 h5 h6 h7 h8 h9
    rw [hpe m h1 h2 h3 h4, hpe m' h5 h6 h7 h8] at h9
    exact h.pinj m m' (by omega) h2 h3 (hLm m h1 h4) (by omega) h6 h7 (hLm m' h5 h8) h9

theorem Ref.opStep (hZ : TOk Z p) (hC : COk p C) (hnt : nt ≤ 2 ^ 30) (h0 : Rel p e0 (Hs 0) w0) (h : Inv p W T Hs Kd lvo ops.size nt e0 w0 ds L j e a w) {i : Nat} (hi' : i < ops.size) (hLi : L i = false)
    (hcl : ∀ m, m < ops.size → L m = true → ∀ q, bitA A m q = true → L q = true) (hanc : ∀ q, bitA A i q = true → L q = true) {r : Option Nat} {n : Nat} {Q : Exit → Act → World → Prop} {K : Act → World → Prop}
    (hK : ∀ j1 e1 a1 w1, Inv p W T Hs Kd lvo ops.size nt e0 w0 ds (upd L i) j1 e1 a1 w1 → K a1 w1) : wpOpIn (FR r) n p.P ops Q i K a w := by
  obtain ⟨o, ho⟩ := R.get hi'
  obtain ⟨b, hb, hk, hf0, hf1⟩ := R.fact i o ho
  have hB := h0.siz
  have hw : Region.wanted o (yielded ops a.tmps) = b := by
    refine wantedA_sound2 (e := e) ?_ hb
    intro g c d hg hd v hv
    have hcur := R.see hnt hi' hLi hcl hanc (t := d) (R.chkG i o ho g c d hg hd)
    exact (h.val d v (by rw [hcur]; exact hv)).1
  unfold wpOpIn
  simp only [ho, hw]
  cases b with
  | false =>
    simp only [Bool.false_eq_true, if_false]
    refine ⟨about_none, ?_⟩
    have he : isEff (Kd i) = false := by rw [hk]; rfl
    have := R.lightAfter hnt h ho he (w1 := w) (v := undef) (fun _ _ => rfl) (Nat.le_refl _) rfl rfl rfl (R.resOf ho hnt (hf0 rfl).1) und_undef
    rw [ren_undef] at this
    exact hK _ _ _ _ this
  | true =>
    simp only [if_true]
    obtain ⟨out, hd, hof⟩ := hf1 rfl
    simp only [cond] at hk
    have h5 := R.no5 i hi'
    have hsem : o.semAt r a.eval = execOp a.eval o := by
      cases r with
      | none => rfl
      | some l => exact Oper.semAt_eq (some l) _ o fun c hc => h5 (by rw [hk, hc]; rfl)
    have hsm := R.small i (Nat.le_of_lt hi')
    have hopn : ∀ x ∈ o.op.operands.toList, (operandOk p.G x && @decide (x ∈ o.op.operands.toList) (Classical.propDecidable _)) = true := by
      intro x hx
      have hok := R.ok i o ho
      simp only [opOk, Bool.and_eq_true, List.all_eq_true] at hok
      simp only [Bool.and_eq_true, decide_eq_true_eq]
      exact ⟨hok.2 x hx, hx⟩
    refine ⟨about_none, ?_⟩
    rw [show (FR r).round = r from rfl, hsem]
    have hkc := kindOf_cases o.op
    rw [← hk] at hkc
    have hempty : ∀ x r, ¬ Own p e (bareH Hs Kd ops.size L j x) r := by
      rintro x r ⟨b, o', hb, _⟩
      simp [bareH, Heap.get, Tr.get_e] at hb
    rcases hkc with hk0 | hk1 | hk2 | hk3 | hk5
    · -- memory plays no part
      have he : isEff (Kd i) = false := by rw [hk0]; rfl
      obtain ⟨⟨v, rfl⟩, hdi⟩ := light_same (hk.symm.trans hk0) hd
      have hE := R.erel hnt h0 h ho hLi hcl hanc
      rw [he] at hE
      have hx := (R.hiE i).1
      have hsm2 := R.small _ hx
      have hE' : ERel (fun x => operandOk p.G x && @decide (x ∈ o.op.operands.toList) (Classical.propDecidable _)) e (bareH Hs Kd ops.size L j (hi i)).D (ev (T i)) a.eval := by rw [bareH_D]; exact hE
      have hs := doOp_sound hZ (R.bareRel h0 h hx) (by show (Hs (hi i)).next + 2 < 2 ^ 40; omega) hE' hopn (hdi _)
      obtain ⟨e1, w1, hrun, hstep, hu⟩ := hs
      have hu' : Und (DL Hs Kd ops.size L j (hi i)) v := by
        have hu2 : Und (bareH Hs Kd ops.size L j (hi i)).D v := hu
        rw [bareH_D] at hu2; exact hu2
      have hren : ren e1 v = ren e v := (Und.eq (show Und (bareH Hs Kd ops.size L j (hi i)).D v from hu) hstep.agree).symm
      have hinv := R.lightAfter hnt h ho he (w1 := w1) (v := v) (fun r hr => hstep.keep r hr (hempty _ r)) hstep.size hstep.tape hstep.os hstep.output (R.resOf ho hnt hof.1) hu'
      rcases hrun with hrun | ⟨hrun, rfl⟩
      · rw [hrun]
        show K (a.put o.dst (ren e1 v)) w1
        rw [hren]
        exact hK _ _ _ _ hinv
      · rw [hrun]
        show K (a.put o.dst undef) w1
        rw [ren_undef] at hinv
        exact hK _ _ _ _ hinv
    · -- a load
      have he : isEff (Kd i) = false := by rw [hk1]; rfl
      obtain ⟨v, hld⟩ := R.ld i o ho hk1
      obtain ⟨hlo1, hlo2⟩ := R.loE i
      obtain ⟨j', hjj, hlj, _, h'⟩ := R.promoteTo hB (lo i) hlo1 (fun m hm hem => hanc m (hlo2 m hm hem)) h
      have hjhi : j' ≤ hi i := by
        by_cases hc : j' ≤ hi i
        · exact hc
        · exfalso
          obtain ⟨hh1, hh2⟩ := R.hiE i
          have hjk := h'.jk
          obtain ⟨hh3, hh4⟩ := hh2 (by omega)
          have := hcl (hi i) (by omega) (h'.lead (hi i) (by omega) hh3) i hh4
          rw [hLi] at this; cases this
      have hE := R.erel hnt h0 h' ho hLi hcl hanc
      obtain ⟨hrun', huv, hdd⟩ : (execOp a.eval o).run p.P w = .ok (.value (ren e v)) w ∧ Und (Hs j').D v ∧ doOp Z (ev (T i)) (Hs i) o = some (.val v .same) := by
        rcases hld with ⟨t, x, ad, hop, hx, hl, hwin⟩ | ⟨t, x, ix, ok, hop, hx, hl, hwin⟩
        · obtain ⟨hrun, huv⟩ := loadV_sound hZ h'.step.rel (hwin j' hlj hjhi)
          obtain ⟨hev, _⟩ := hE x (hopn x (by rw [hop]; simp [Op.operands])) (by rw [hx]; rfl)
          rw [hx, ren_ptr] at hev
          refine ⟨?_, huv, ?_⟩
          · unfold execOp
            simp only [hop, hev]
            simp [Instr.loadAt, Instr.sureAddr, hrun]
          · unfold doOp
            simp only [hop, hx, hl, Option.map_some]
        · obtain ⟨hrun, huv⟩ := lookupA_sound (e := e) (w := w) hZ h'.step.rel (hwin j' hlj hjhi)
          have hex := hE x (hopn x (by rw [hop]; simp [Op.operands])) hx
          have hei := hE ix (hopn ix (by rw [hop]; simp [Op.operands])) (lookupA_known hl)
          refine ⟨?_, huv, ?_⟩
          · unfold execOp
            simp only [hop, hex.1, hei.1, Sem.run_bind, hrun, Result.andThen_ok, Sem.run_pure]
          · unfold doOp
            simp only [hop, hx, hl, if_true, Option.map_some]
      rw [hrun']
      have hof' := hof
      rw [hd] at hdd
      cases hdd
      refine hK _ _ _ _ (R.lightAfter hnt h' ho he (w1 := w) (v := v) (fun _ _ => rfl) (Nat.le_refl _) rfl rfl rfl (R.resOf ho hnt hof.1) (huv.mono ?_))
      intro b hb
      exact ⟨Nat.lt_of_lt_of_le hb.1 (R.next_le hjhi (R.hiE i).1), .inl hb.1⟩
    · -- a new row
      obtain ⟨⟨v, cells, el, rfl⟩, hdi⟩ := bs_indep (h' := bareH Hs Kd ops.size L j i) (hk.symm.trans hk2) hd rfl
      have hE := R.erel hnt h0 h ho hLi hcl hanc
      rw [show isEff (Kd i) = true from by rw [hk2]; rfl] at hE
      have hE' : ERel (fun x => operandOk p.G x && @decide (x ∈ o.op.operands.toList) (Classical.propDecidable _)) e (bareH Hs Kd ops.size L j i).D (ev (T i)) a.eval := by rw [bareH_D]; exact hE
      have hs := doOp_sound hZ (R.bareRel h0 h (Nat.le_of_lt hi')) (by show (Hs i).next + 2 < 2 ^ 40; omega) hE' hopn hdi
      obtain ⟨e1, w1, hrun, hstep, hu⟩ := hs
      obtain ⟨e2, hren, hinv⟩ := R.rowAfter hnt h0 h ho hk2 hLi hof.2 hstep (R.resOf ho hnt hof.1) hu
      rcases hrun with hrun | ⟨hrun, rfl⟩
      · rw [hrun]
        show K (a.put o.dst (ren e1 v)) w1
        rw [← hren]
        exact hK _ _ _ _ hinv
      · rw [hrun]
        show K (a.put o.dst undef) w1
        rw [ren_undef] at hinv
        exact hK _ _ _ _ hinv
    · -- all else: all ahead of it is done
      have he : isEff (Kd i) = true := by rw [hk3]; rfl
      have hlo := R.ef i hi' hk3
      obtain ⟨hlo1, hlo2⟩ := R.loE i
      obtain ⟨j', hjj, hij, hor, h'⟩ := R.promoteTo hB i (Nat.le_of_lt hi') (fun m hm hem => hanc m (hlo2 m (by omega) hem)) h
      have hji : j' = i := by
        by_cases hx : j' = i
        · exact hx
        · have := h'.lead i (by omega) he
          rw [hLi] at this; cases this
      subst hji
      have hE := R.erel hnt h0 h' ho hLi hcl hanc
      rw [he] at hE
      have hgh := R.gh j' (Nat.le_of_lt hi')
      have hDD : DL Hs Kd ops.size L j' j' = (Hs j').D := by
        funext b
        apply propext
        exact ⟨fun hb => ⟨hb.1, by rw [hgh]; simp⟩, fun hb => ⟨hb.1, .inl hb.1⟩⟩
      have hE' : ERel (fun x => operandOk p.G x && @decide (x ∈ o.op.operands.toList) (Classical.propDecidable _)) e (Hs j').D (ev (T j')) a.eval := by rw [← hDD]; exact hE
      have hs := doOp_sound hZ h'.step.rel (by omega) hE' hopn hd
      cases out with
      | val v d =>
        obtain ⟨e1, w1, hrun, hstep, hu⟩ := hs
        rw [← hof.2] at hstep hu
        obtain ⟨e2, hren, hinv⟩ := R.effectAfter hnt h' ho he hLi hstep (R.resOf ho hnt hof.1) hu
        rcases hrun with hrun | ⟨hrun, rfl⟩
        · rw [hrun]
          show K (a.put o.dst (ren e1 v)) w1
          rw [← hren]
          exact hK _ _ _ _ hinv
        · rw [hrun]
          show K (a.put o.dst undef) w1
          rw [ren_undef] at hinv
          exact hK _ _ _ _ hinv
      | enter f args =>
        obtain ⟨hrun, hargs, _⟩ := hs
        obtain ⟨v, hcall, hT⟩ := hof
        rw [hrun]
        refine ⟨fun hd => by simp [FR] at hd, ?_⟩
        refine CallsIn.mono (F := FR none) (hC.fn f args _ _ _ hcall e w (n - 1) h'.step.rel hargs) ?_
        rintro en w1 ⟨e1, hstep, rfl, hu⟩
        obtain ⟨e2, hren, hinv⟩ := R.effectAfter hnt h' ho he hLi hstep (R.resOf ho hnt hT) hu
        show K (a.put o.dst (ren e1 v)) w1
        rw [← hren]
        exact hK _ _ _ _ hinv
      | round l args =>
        obtain ⟨hrun, hargs⟩ := hs
        obtain ⟨v, hcall, hT⟩ := hof
        obtain ⟨f, tmps, assign, body, hy, hround⟩ := hC.rd l args _ _ _ hcall e w (n - 1) h'.step.rel hargs
        rw [hrun, hy]
        refine ⟨fun hd => by simp [FR] at hd, ?_⟩
        refine RoundIn.mono (F := FR none) hround ?_
        rintro en w1 ⟨e1, hstep, rfl, hu⟩
        obtain ⟨e2, hren, hinv⟩ := R.effectAfter hnt h' ho he hLi hstep (R.resOf ho hnt hT) hu
        show K (a.put o.dst (ren e1 v)) w1
        rw [← hren]
        exact hK _ _ _ _ hinv
      | defer d => exact hof.elim
      | recover => exact hof.elim
      | panic v => exact hof.elim
    · exact (h5 hk5).elim
end
end Go.Eng

namespace Go.Eng
variable [Shift]
variable {p : Par} {e e' e'' : Env} {H H' : Heap} {w w' w'' : World} {Z : Tab}

theorem count_set {l : List Bool} {i : Nat} (h : l[i]? = some false) : (l.set i true).count false + 1 = l.count false := by
  induction l generalizing i with
  | nil => simp at h
  | cons x l ih =>
    cases i with
    | zero =>
      simp only [List.getElem?_cons_zero, Option.some.injEq] at h
      subst h
      simp
    | succ i =>
      simp only [List.getElem?_cons_succ] at h
      have := ih h
      simp only [List.set_cons_succ, List.count_cons]
      omega

section
variable {C : Calls3} {nt : Nat} {ops : Array Oper} {A W : Tr Nat} {T : Nat → Tr Value} {Hs : Nat → Heap} {Kd lvo hi lo : Nat → Nat}
variable {e0 : Env} {w0 : World} {ds : List Deferred}
variable (R : Ref Z p.G C nt ops A W T Hs Kd lvo hi lo)
include R

theorem Ref.all_listed {listed : Array Bool} (hsz : listed.size = ops.size) (hr : Region.ready .any ops listed = []) : ∀ m, m < ops.size → listed.getD m false = true := by
  intro m
  induction m using Nat.strongRecOn with
  | _ m ih =>
    intro hm
    cases hL : listed.getD m false with
    | true => rfl
    | false =>
      exfalso
      obtain ⟨o, ho⟩ := R.get hm
      have : m ∈ Region.ready .any ops listed := by
        rw [mem_ready]
        refine ⟨?_, o, ho, fun x hx hb => ?_⟩
        · have hm' : m < listed.size := by omega
          simp [Array.getD, hm'] at hL ⊢
          exact hL
        · have := R.bind m o ho x hx hb
          exact ih x.on this (by omega)
      rw [hr] at this
      cases this

theorem Ref.explore (hZ : TOk Z p) (hC : COk p C) (hnt : nt ≤ 2 ^ 30) (h0 : Rel p e0 (Hs 0) w0) {r : Option Nat} {n : Nat} {Q : Exit → Act → World → Prop}
    (hQ : ∀ L j e a w, (∀ m, m < ops.size → L m = true) → Inv p W T Hs Kd lvo ops.size nt e0 w0 ds L j e a w → Q .normal a w) :
    ∀ (fuel : Nat) (listed : Array Bool) (j : Nat) (e : Env) (a : Act) (w : World), listed.size = ops.size → listed.toList.count false ≤ fuel →
      (∀ m, m < ops.size → listed.getD m false = true → ∀ q, bitA A m q = true → listed.getD q false = true) →
      Inv p W T Hs Kd lvo ops.size nt e0 w0 ds (fun m => listed.getD m false) j e a w → wpAnyIn (FR r) n p.P .any ops Q fuel listed a w := by
  intro fuel
  induction fuel with
  | zero =>
    intro listed j e a w hsz hcount hcl h
    have hr : Region.ready .any ops listed = [] := by
      apply List.eq_nil_iff_forall_not_mem.2
      intro m hm
      obtain ⟨h1, o, ho, _⟩ := mem_ready.1 hm
      have hmo := (Array.getElem?_eq_some_iff.1 ho).1
      have hm' : m < listed.size := by omega
      have h2 : listed[m] = false := by simpa [Array.getD, hm'] using h1
      have h3 : false ∈ listed.toList := by
        rw [← h2]; exact Array.mem_toList_iff.2 (Array.getElem_mem hm')
      have := List.count_pos_iff.2 h3
      omega
    exact ⟨hr, hQ _ j e a w (R.all_listed hsz hr) h⟩
  | succ fuel ih =>
    intro listed j e a w hsz hcount hcl h
    refine ⟨fun hr => hQ _ j e a w (R.all_listed hsz hr) h, ?_⟩
    intro i hir
    obtain ⟨h1, o, ho, hpre⟩ := mem_ready.1 hir
    have hi' := (Array.getElem?_eq_some_iff.1 ho).1
    have hil : i < listed.size := by omega
    have h2 : listed[i] = false := by simpa [Array.getD, hil] using h1
    have hLi : listed.getD i false = false := by simp [Array.getD, hil, h2]
    have hanc : ∀ q, bitA A i q = true → listed.getD q false = true := by
      intro q hq
      obtain ⟨x, hx, hb, hor⟩ := R.anc i o ho q hq
      have hxl := hpre x hx hb
      rcases hor with rfl | hor
      · exact hxl
      · have := R.bind i o ho x hx hb
        exact hcl x.on (by omega) hxl q hor
    refine R.opStep (L := fun m => listed.getD m false) hZ hC hnt h0 h hi' hLi hcl hanc ?_
    intro j1 e1 a1 w1 hinv
    have hget : ∀ m, (listed.setIfInBounds i true).getD m false = upd (fun m => listed.getD m false) i m := by
      intro m
      by_cases hmi : m = i
      · subst hmi; simp [upd, Array.getD, hil]
      · have : i ≠ m := fun hx => hmi hx.symm
        simp only [upd, if_neg hmi]
        simp only [Array.getD_eq_getD_getElem?, Array.getElem?_setIfInBounds_ne this]
    refine ih _ j1 e1 a1 w1 (by simpa using hsz) ?_ ?_ ?_
    · have := count_set (l := listed.toList) (i := i) (by simp [hil, h2])
      rw [Array.toList_setIfInBounds]
      omega
    · intro m hm hLm q hq
      rw [hget] at hLm ⊢
      by_cases hqi : q = i
      · simp [upd, hqi]
      · simp only [upd, if_neg hqi]
        by_cases hmi : m = i
        · subst hmi; exact hanc q hq
        · simp only [upd, if_neg hmi] at hLm
          exact hcl m hm hLm q hq
    · rw [show (fun m => (listed.setIfInBounds i true).getD m false) = upd (fun m => listed.getD m false) i from funext hget]
      exact hinv
end

theorem chkAll_spec {A W : Tr Nat} {ks lvo : List Nat} {hs : List Heap} {ops : Array Oper} : ∀ (l : List Oper) (rs : List DRec) (i : Nat), chkAll Z A W ks lvo hs ops l rs i = true →
    ∀ k o r, l[k]? = some o → rs[k]? = some r → chkOp Z A W ks lvo hs ops (i + k) o r = true
  | [], rs, i, _, k, o, r, ho, _ => by simp at ho
  | o :: os, [], i, _, k, o', r, _, hr => by simp at hr
  | o :: os, r :: rs, i, h, k, o', r', ho, hr => by
    simp only [chkAll, Bool.and_eq_true] at h
    cases k with
    | zero =>
      simp only [List.getElem?_cons_zero, Option.some.injEq] at ho hr
      subst ho; subst hr
      exact h.1
    | succ k =>
      simp only [List.getElem?_cons_succ] at ho hr
      have := chkAll_spec os rs (i + 1) h.2 k o' r' ho hr
      rw [show i + (k + 1) = i + 1 + k from by omega]; exact this

theorem chkTmp_spec {A W : Tr Nat} {lvo : List Nat} {i lp t : Nat} (h : chkTmp A W lvo i lp t = true) : ∀ j, W.get t = some j → (j < i → bitA A i j = true ∧ lvo.getD j 0 ≤ lp) ∧ (i < j → bitA A j i = true) := by
  intro j hj
  simp only [chkTmp, hj] at h
  refine ⟨fun hji => ?_, fun hij => ?_⟩
  · rw [show Nat.blt j i = true from Nat.blt_eq.mpr hji] at h
    simp only [cond, Bool.and_eq_true] at h
    exact ⟨h.1, Nat.le_of_ble_eq_true h.2⟩
  · have h1 : Nat.blt j i = false := by
      cases hb : Nat.blt j i with
      | false => rfl
      | true => have := Nat.blt_eq.mp hb; omega
    rw [h1, show Nat.blt i j = true from Nat.blt_eq.mpr hij] at h
    exact h

theorem stepD0_refX {C : Calls3} {rd : Bool} {nt : Nat} {ops : Array Oper} {s s' : St} {ex : Ex} {G : Nat} (hnt : nt ≤ 2 ^ 30) (hok : ∀ o ∈ ops.toList, opOk G nt o = true) (h : stepD0 Z C rd ops s = some (ex, s')) :
    ex = .normal ∧ s'.ds = s.ds ∧ ∃ A W rs lvo hi lo, masks ops.toList 0 .e = some A ∧ writers ops.toList 0 .e = some W ∧ fwd Z C rd ops ops.toList s = some (rs, s') ∧ Ref Z G C nt ops A W (Ti rs s') (Hi rs s') (Ki rs) lvo hi lo ∧
      Ti rs s' 0 = s.T ∧ Hi rs s' 0 = s.h ∧ Ti rs s' ops.size = s'.T ∧ Hi rs s' ops.size = s'.h := by
  simp only [stepD0] at h
  cases hc : (Nat.blt ops.size 1000 && s.h.ghost.isEmpty && Nat.blt s.h.next 1000000000) with
  | false => rw [hc] at h; cases h
  | true =>
  rw [hc] at h
  simp only [cond, Bool.and_eq_true, Nat.blt_eq, List.isEmpty_iff] at h hc
  obtain ⟨⟨hsz, hgh⟩, hsm⟩ := hc
  split at h <;> try (cases h; done)
  rename_i A W rs sf hA hW hfwd
  cases hchk : chkAll Z A W (rs.map (·.kind)) (lvos A (rs.map (·.kind)) (rs.map (·.kind)) 0) (rs.map (·.h) ++ [sf.h]) ops ops.toList rs 0 with
  | false => rw [hchk] at h; cases h
  | true =>
  rw [hchk] at h
  simp only [cond, Option.some.injEq, Prod.mk.injEq] at h
  obtain ⟨rfl, rfl⟩ := h
  obtain ⟨hlen, hT0, hH0, hds, hall⟩ := fwd_spec _ _ _ _ hfwd
  have hlen' : rs.length = ops.size := by simpa using hlen
  obtain ⟨_, hmask⟩ := masks_spec ops.toList 0 .e A (by simp; omega) hA
  obtain ⟨_, hwr, hwr'⟩ := writers_spec hnt ops.toList 0 .e W (fun o ho d hd => by
    have := hok o ho
    simp only [opOk, hd, Bool.and_eq_true] at this
    exact Nat.blt_eq.mp this.1) hW
  have hchk' := chkAll_spec _ _ _ hchk
  generalize hks : rs.map (·.kind) = ks at hchk'
  have hksl : ks.length = ops.size := by rw [← hks]; simpa using hlen'
  have hkd : ∀ i, ks.getD i 4 = Ki rs i := by
    intro i
    rw [← hks]
    unfold Ki
    cases hr : rs[i]? with
    | none => simp [hr]
    | some r => simp [hr]
  have hrs : ∀ i, i < ops.size → ∃ r, rs[i]? = some r ∧ r.kind = Ki rs i ∧ r.T = Ti rs sf i ∧ r.h = Hi rs sf i := by
    intro i hi
    have hi' : i < rs.length := by omega
    refine ⟨rs[i], by simp [hi'], ?_, ?_, ?_⟩
    · simp [Ki, hi']
    · simp [Ti, hi']
    · simp [Hi, hi']
  have hop : ∀ (i : Nat) (o : Oper), ops[i]? = some o → ops.toList[i]? = some o := fun i o h => by simpa using h
  have hlt : ∀ (i : Nat) (o : Oper), ops[i]? = some o → i < ops.size := fun i o h => (Array.getElem?_eq_some_iff.1 h).1
  have hget : ∀ i, i < ops.size → ∃ o, ops[i]? = some o := fun i h => ⟨ops[i], by simp [h]⟩
  have hopc : ∀ (i : Nat) (o : Oper), ops[i]? = some o → ∃ r, r.kind = Ki rs i ∧ r.T = Ti rs sf i ∧ r.h = Hi rs sf i ∧
      (∀ x ∈ o.op.operands.toList, chkOpnd A W (lvos A ks ks 0) i (cond (isEff (Ki rs i)) i (hiOf A i ks 0)) x = true) ∧
      chkGuard A W (lvos A ks ks 0) i (cond (isEff (Ki rs i)) i (hiOf A i ks 0)) ops o = true ∧
      cond (Nat.beq (Ki rs i) 1) (chkLoad Z (rs.map (·.h) ++ [sf.h]) (loOf A i ks 0) (hiOf A i ks 0) r o.op) (cond (Nat.beq (Ki rs i) 3) (Nat.ble i (loOf A i ks 0)) (!Nat.beq (Ki rs i) 5)) = true := by
    intro i o ho
    obtain ⟨r, hr, h1, h2, h3⟩ := hrs i (hlt i o ho)
    have := hchk' i o r (hop i o ho) hr
    simp only [chkOp, forceNat_eq, Nat.zero_add, h1, Bool.and_eq_true, List.all_eq_true] at this
    exact ⟨r, h1, h2, h3, this.1.1, this.1.2, this.2⟩
  refine ⟨rfl, hds, A, W, rs, fun i => (lvos A ks ks 0).getD i 0, fun i => hiOf A i ks 0, fun i => loOf A i ks 0, hA, hW, hfwd, ?_, hT0, hH0, ?_, ?_⟩
  · refine ⟨hsz, ?_, ?_, ?_, ?_, ?_, ?_, ?_, ?_, ?_, ?_, ?_, ?_, ?_, ?_, ?_, ?_, ?_⟩
    · intro i o ho
      exact (hall i o (hop i o ho)).1
    · intro i hi
      obtain ⟨o, ho⟩ := hget i hi
      exact (hall i o (hop i o ho)).2.1
    · intro i hi
      cases i with
      | zero => rw [hH0]; exact hsm
      | succ i =>
        obtain ⟨o, ho⟩ := hget i (by omega)
        exact (hall i o (hop i o ho)).2.2.1
    · intro i hi
      cases i with
      | zero => rw [hH0]; exact hgh
      | succ i =>
        obtain ⟨o, ho⟩ := hget i (by omega)
        exact (hall i o (hop i o ho)).2.2.2
    · intro i o ho x hx hb
      obtain ⟨m, _, hm⟩ := hmask i o (hop i o ho)
      have := (maskOf_spec _ _ hm).1 x (by simpa using hx) hb
      omega
    · intro i o ho q hq
      obtain ⟨m, hAm, hm⟩ := hmask i o (hop i o ho)
      rw [Nat.zero_add] at hAm
      simp only [bitA, hAm] at hq
      obtain ⟨x, hx, hb⟩ := (maskOf_spec _ _ hm).2 q hq
      exact ⟨x, by simpa using hx, hb⟩
    · intro i o d ho hd
      have := hwr i o d (hop i o ho) hd
      rw [Nat.zero_add] at this; exact this
    · intro d i hdi
      rcases hwr' d i hdi with hx | ⟨q, o, ho, hd, rfl⟩
      · simp [Tr.get_e] at hx
      · exact ⟨o, by simpa using ho, hd⟩
    · intro i o ho
      exact hok o (List.mem_of_getElem? (hop i o ho))
    · intro i
      obtain ⟨h1, h2, h3⟩ := hiOf_spec (A := A) (i := i) ks 0
      refine ⟨by omega, fun hlt => ?_⟩
      have := h3 (hiOf A i ks 0) (by omega) (by omega)
      rw [hkd, Nat.zero_add] at this
      exact this
    · intro i
      obtain ⟨h1, h2⟩ := loOf_spec (A := A) (i := i) ks 0
      refine ⟨by omega, fun m hm he => ?_⟩
      have := h2 m (by omega) (by rw [hkd]; exact he)
      rw [Nat.zero_add] at this; exact this
    · intro i hi
      have := lvos_spec (A := A) (all := ks) ks 0 i (by omega)
      rw [hkd, Nat.zero_add] at this
      exact this
    · intro i o ho x hx t hxt q hq
      obtain ⟨r, _, _, _, h4, _, _⟩ := hopc i o ho
      have := h4 x hx
      subst hxt
      exact chkTmp_spec this q hq
    · intro i o ho g c d hg hd q hq
      obtain ⟨r, _, _, _, _, h5, _⟩ := hopc i o ho
      simp only [chkGuard, hg, hd] at h5
      have := chkTmp_spec h5 q hq
      exact ⟨fun hx => (this.1 hx).1, this.2⟩
    · intro i o ho hk1
      obtain ⟨r, _, h2, h3, _, _, h6⟩ := hopc i o ho
      rw [hk1] at h6
      have h6 : chkLoad Z (rs.map (·.h) ++ [sf.h]) (loOf A i ks 0) (hiOf A i ks 0) r o.op = true := h6
      have hmem : ∀ q, loOf A i ks 0 ≤ q → q ≤ hiOf A i ks 0 → Hi rs sf q ∈ ((rs.map (·.h) ++ [sf.h]).drop (loOf A i ks 0)).take (hiOf A i ks 0 + 1 - loOf A i ks 0) := by
        intro q hq1 hq2
        have hq3 : q ≤ ops.size := by
          have := (hiOf_spec (A := A) (i := i) ks 0).2.1
          omega
        apply List.mem_of_getElem? (i := q - loOf A i ks 0)
        rw [List.getElem?_take, if_pos (by omega), List.getElem?_drop, show loOf A i ks 0 + (q - loOf A i ks 0) = q from by omega]
        by_cases hqs : q < rs.length
        · rw [List.getElem?_append_left (by simpa using hqs)]
          simp [Hi, hqs]
        · have : q = rs.length := by omega
          subst this
          rw [List.getElem?_append_right (by simp)]
          simp [Hi]
      unfold chkLoad at h6
      split at h6 <;> try (cases h6; done)
      · rename_i t x hop'
        split at h6 <;> try (cases h6; done)
        rename_i ad had
        split at h6 <;> try (cases h6; done)
        rename_i v hv
        rw [h2] at had
        rw [h3] at hv
        refine ⟨v, .inl ⟨t, x, ad, hop', had, hv, fun q hq1 hq2 => ?_⟩⟩
        have := (List.all_eq_true.1 h6) _ (hmem q hq1 hq2)
        split at this
        · rename_i v' hv'
          rw [hv', sameV_eq _ _ _ this]
        · cases this
      · rename_i t x ix ok hop'
        split at h6 <;> try (cases h6; done)
        rename_i v hv
        simp only [Bool.and_eq_true] at h6
        obtain ⟨hkn, h6⟩ := h6
        rw [h2] at hv hkn h6
        rw [h3] at hv
        refine ⟨v, .inr ⟨t, x, ix, ok, hop', hkn, hv, fun q hq1 hq2 => ?_⟩⟩
        have := (List.all_eq_true.1 h6) _ (hmem q hq1 hq2)
        split at this
        · rename_i v' hv'
          rw [hv', sameV_eq _ _ _ this]
        · cases this
    · intro i hi hk3
      obtain ⟨o, ho⟩ := hget i hi
      obtain ⟨r, _, _, _, _, _, h6⟩ := hopc i o ho
      rw [hk3] at h6
      exact Nat.le_of_ble_eq_true h6
    · intro i hi hk5
      obtain ⟨o, ho⟩ := hget i hi
      obtain ⟨r, _, _, _, _, _, h6⟩ := hopc i o ho
      rw [hk5] at h6
      cases h6
  · simp [Ti, ← hlen']
  · simp [Hi, ← hlen']

theorem stepD0_ref {C : Calls3} {rd : Bool} {nt : Nat} {ops : Array Oper} {s s' : St} {ex : Ex} {G : Nat} (hnt : nt ≤ 2 ^ 30) (hok : ∀ o ∈ ops.toList, opOk G nt o = true) (h : stepD0 Z C rd ops s = some (ex, s')) :
    ex = .normal ∧ s'.ds = s.ds ∧ ∃ A W T Hs Kd lvo hi lo, Ref Z G C nt ops A W T Hs Kd lvo hi lo ∧ T 0 = s.T ∧ Hs 0 = s.h ∧ T ops.size = s'.T ∧ Hs ops.size = s'.h := by
  obtain ⟨h1, h2, A, W, rs, lvo, hi, lo, _, _, _, R, h3⟩ := stepD0_refX (G := G) hnt hok h
  exact ⟨h1, h2, A, W, _, _, _, lvo, hi, lo, R, h3⟩

theorem stepD0_sound (hZ : TOk Z p) {C : Calls3} (hC : COk p C) (r : Option Nat) (nt n id : Nat) (ops : Array Oper) (s s' : St) (ex : Ex) (e : Env) (w : World) (a : Act)
    (hnt : nt ≤ 2 ^ 30) (hS : SRel p e nt s a w) (hok : ∀ o ∈ ops.toList, opOk p.G nt o = true) (h : stepD0 Z C r.isSome ops s = some (ex, s')) :
    wpAnyIn (FR r) n p.P .any ops (Post p e s.h w nt ex s') ops.size (Array.replicate ops.size false) a { w with drawn := w.drawn + 1 } := by
  obtain ⟨rfl, hds, A, W, T, Hs, Kd, lvo, hi, lo, R, hT0, hH0, hTk, hHk⟩ := stepD0_ref (G := p.G) hnt hok h
  have h0 : Rel p e (Hs 0) { w with drawn := w.drawn + 1 } := by rw [hH0]; exact hS.rel.drew
  have hrep : ∀ m, (Array.replicate ops.size false).getD m false = false := by
    intro m
    by_cases hm : m < ops.size <;> simp [Array.getD, hm]
  have hinit : Inv p W T Hs Kd lvo ops.size nt e { w with drawn := w.drawn + 1 } a.defers (fun m => (Array.replicate ops.size false).getD m false) 0 e a { w with drawn := w.drawn + 1 } := by
    refine ⟨Nat.zero_le _, fun m hm => by omega, .refl h0, hS.tmps.1, rfl, ?_, ?_, ?_⟩
    · intro t v hv
      have hcur : s.T.get t = some v := by
        rw [← hT0, ← hv]
        unfold cur
        cases W.get t with
        | none => rfl
        | some q => simp only [hrep]; rfl
      refine ⟨hS.tmps.2 t v hcur, (hS.tund t v hcur).mono ?_⟩
      intro b hb
      have h1 : b < (Hs 0).next := by rw [hH0]; exact hb.1
      have h2 : tl W lvo (fun m => (Array.replicate ops.size false).getD m false) t = 0 := by
        unfold tl
        cases W.get t with
        | none => rfl
        | some q => simp only [hrep]; rfl
      rw [h2]
      exact ⟨h1, .inl h1⟩
    · intro m _ _ _ hL
      simp only [hrep] at hL; cases hL
    · intro m m' _ _ _ hL
      simp only [hrep] at hL; cases hL
  refine R.explore hZ hC hnt h0 ?_ ops.size (Array.replicate ops.size false) 0 e a _ (by simp) ?_ (fun m _ hL => by rw [hrep] at hL; cases hL) hinit
  · intro L j e1 a1 w1 hall hinv
    obtain ⟨j', _, hj', _, hinv'⟩ := R.promoteTo h0.siz ops.size (Nat.le_refl _) (fun m hm _ => hall m hm) hinv
    have : j' = ops.size := by have := hinv'.jk; omega
    subst this
    have hcur : ∀ t, cur W T ops.size L t = s'.T.get t := by
      intro t
      rw [← hTk]
      unfold cur
      cases hW : W.get t with
      | none => exact (R.T_none hnt hW ops.size (Nat.le_refl _)).symm
      | some q =>
        obtain ⟨o, ho, _⟩ := R.wr' t q hW
        simp only
        rw [if_pos (hall q (Array.getElem?_eq_some_iff.1 ho).1)]
    have hstep := hinv'.step
    rw [hHk, hH0] at hstep
    have hst : Step p e s.h w e1 s'.h w1 := (Step.drew hS.rel).trans hstep
    have hgh := R.gh ops.size (Nat.le_refl _)
    rw [hHk] at hgh
    refine ⟨e1, hst, ⟨hst.rel, ⟨hinv'.size, ?_⟩, ?_, ?_, ?_⟩, rfl⟩
    · intro t v hv
      exact (hinv'.val t v (by rw [hcur]; exact hv)).1
    · intro t v hv
      refine (hinv'.val t v (by rw [hcur]; exact hv)).2.mono ?_
      rintro b ⟨_, h2⟩
      rcases h2 with h2 | ⟨m, h3, h4, _⟩
      · rw [hHk] at h2
        exact ⟨h2, by rw [hgh]; simp⟩
      · omega
    · rw [hinv'.dfs, hds, hS.defs]
      exact dmap_eq hS.dund hst.agree
    · intro d hd
      rw [hds] at hd
      exact (hS.dund d hd).mono hst.sub
  · simp [List.count_replicate]

end Go.Eng

namespace Go.Eng

/-- The operations of ops', renumbered, are those of ops: i stands at f i, and at k stands g k. -/
structure PermOk (ops ops' : Array Oper) (f g : Nat → Nat) : Prop where
  size : ops'.size = ops.size
  fg : ∀ i, i < ops.size → f i < ops.size ∧ g (f i) = i
  gf : ∀ k, k < ops.size → g k < ops.size ∧ f (g k) = k
  get : ∀ (i : Nat) (o : Oper), ops[i]? = some o → ops'[f i]? = some (renumO f o)
  rng : ∀ (i : Nat) (o : Oper), ops[i]? = some o → (∀ e ∈ o.after, Region.binds .any e = true → e.on < ops.size) ∧ (∀ j b, o.guard = some (j, b) → j < ops.size)
theorem PermOk.id (ops : Array Oper) (h : ∀ (i : Nat) (o : Oper), ops[i]? = some o → True) : True := trivial

section
variable {F : Fence} {n : Nat} {P : Program} {Q : Exit → Act → World → Prop} {ops ops' : Array Oper} {f g : Nat → Nat}

theorem getD_tf {a : Array Bool} {i : Nat} (h : i < a.size) : a.getD i true = a.getD i false := by simp [Array.getD, h]
theorem PermOk.ready (hP : PermOk ops ops' f g) {l l' : Array Bool} (hl : l.size = ops.size) (hl' : l'.size = ops.size) (he : ∀ i, i < ops.size → l'.getD (f i) false = l.getD i false) {i : Nat} (hi : i < ops.size) :
    i ∈ Region.ready .any ops l ↔ f i ∈ Region.ready .any ops' l' := by
  have hfi := (hP.fg i hi).1
  have ho : ops[i]? = some ops[i] := by simp [hi]
  rw [mem_ready, mem_ready, getD_tf (by omega), getD_tf (by omega), he i hi]
  constructor
  · rintro ⟨h1, o, ho', h2⟩
    refine ⟨h1, _, hP.get i o ho', fun e hem hb => ?_⟩
    simp only [renumO, Array.mem_map] at hem
    obtain ⟨e0, he0, rfl⟩ := hem
    have hb0 : Region.binds .any e0 = true := hb
    rw [he _ ((hP.rng i o ho').1 e0 he0 hb0)]
    exact h2 e0 he0 hb0
  · rintro ⟨h1, o', ho', h2⟩
    refine ⟨h1, _, ho, fun e hem hb => ?_⟩
    have := hP.get i _ ho
    rw [ho'] at this
    cases this
    have h3 := h2 { e with on := f e.on } (by simp only [renumO, Array.mem_map]; exact ⟨e, hem, rfl⟩) hb
    rwa [he _ ((hP.rng i _ ho).1 e hem hb)] at h3
theorem ready_lt {l : Array Bool} {i : Nat} (h : i ∈ Region.ready .any ops l) : i < ops.size := by
  rw [mem_ready] at h
  obtain ⟨_, o, ho, _⟩ := h
  exact (Array.getElem?_eq_some_iff.1 ho).1
theorem PermOk.yielded (hP : PermOk ops ops' f g) {j : Nat} (hj : j < ops.size) (t : Array Value) : yielded ops' t (f j) = yielded ops t j := by
  have ho : ops[j]? = some ops[j] := by simp [hj]
  unfold Go.yielded
  rw [hP.get j _ ho, ho]
  rfl
theorem PermOk.wanted (hP : PermOk ops ops' f g) {i : Nat} {o : Oper} (ho : ops[i]? = some o) (t : Array Value) : Region.wanted (renumO f o) (Go.yielded ops' t) = Region.wanted o (Go.yielded ops t) := by
  unfold Region.wanted
  simp only [renumO]
  cases hg : o.guard with
  | none => rfl
  | some p =>
    obtain ⟨j, b⟩ := p
    simp only [Option.map_some]
    rw [hP.yielded ((hP.rng i o ho).2 j b hg)]
theorem renum_wpIn {o : Oper} {a : Act} {w : World} {K : Act → World → Prop} : Oper.wpIn F n P (renumO f o) a w K Q ↔ Oper.wpIn F n P o a w K Q := Iff.rfl
theorem PermOk.op (hP : PermOk ops ops' f g) {i : Nat} (hi : i < ops.size) {K : Act → World → Prop} {a : Act} {w : World} : wpOpIn F n P ops' Q (f i) K a w ↔ wpOpIn F n P ops Q i K a w := by
  have ho : ops[i]? = some ops[i] := by simp [hi]
  unfold wpOpIn
  rw [hP.get i _ ho, ho]
  simp only
  rw [hP.wanted ho]
  exact Iff.rfl
/-- What holds of each order of the one holds of each order of the other. -/
theorem wpAny_perm (hP : PermOk ops ops' f g) : ∀ (fuel : Nat) (l l' : Array Bool) (a : Act) (w : World), l.size = ops.size → l'.size = ops.size → (∀ i, i < ops.size → l'.getD (f i) false = l.getD i false) →
    wpAnyIn F n P .any ops' Q fuel l' a w → wpAnyIn F n P .any ops Q fuel l a w := by
  have nil : ∀ {l l' : Array Bool}, l.size = ops.size → l'.size = ops.size → (∀ i, i < ops.size → l'.getD (f i) false = l.getD i false) → (Region.ready .any ops l = [] ↔ Region.ready .any ops' l' = []) := by
    intro l l' hl hl' he
    constructor
    · intro h
      apply List.eq_nil_iff_forall_not_mem.2
      intro k hk
      have hkl := ready_lt hk
      rw [hP.size] at hkl
      obtain ⟨h1, h2⟩ := hP.gf k hkl
      have := (hP.ready hl hl' he h1).2 (by rw [h2]; exact hk)
      rw [h] at this
      cases this
    · intro h
      apply List.eq_nil_iff_forall_not_mem.2
      intro k hk
      have := (hP.ready hl hl' he (ready_lt hk)).1 hk
      rw [h] at this
      cases this
  intro fuel
  induction fuel with
  | zero =>
    intro l l' a w hl hl' he h
    exact ⟨(nil hl hl' he).2 h.1, h.2⟩
  | succ fuel ih =>
    intro l l' a w hl hl' he h
    refine ⟨fun hr => h.1 ((nil hl hl' he).1 hr), fun i hi => ?_⟩
    have hil := ready_lt hi
    have hfi := (hP.fg i hil)
    have h2 := h.2 (f i) ((hP.ready hl hl' he hil).1 hi)
    rw [hP.op hil] at h2
    refine wpOpIn_mono (fun a w h3 => ih _ _ a w (by simpa using hl) (by simpa using hl') (fun k hk => ?_) h3) h2
    have hfk := hP.fg k hk
    by_cases hki : k = i
    · subst hki
      simp [Array.getD, hl, hl', hfk.1, hk]
    · have hne : f i ≠ f k := fun e => hki (by rw [← hfk.2, ← e, hfi.2])
      have := he k hk
      simp only [Array.getD, Array.size_setIfInBounds, hl, hl', hfk.1, hk, dif_pos] at this ⊢
      simp only [Array.getInternal_eq_getElem] at this ⊢
      rw [Array.getElem_setIfInBounds_ne (by omega) hne, Array.getElem_setIfInBounds_ne (by omega) (fun e => hki e.symm)]
      exact this
end

theorem permChk_spec {ops : Array Oper} {σ : List Nat} (h : permChk ops σ = true) : PermOk ops ⟨σ.map fun k => renumO (permF σ) (ops.getD k default)⟩ (permF σ) (permG σ) := by
  unfold permChk at h
  simp only [Bool.and_eq_true, Nat.beq_eq, List.all_eq_true, List.mem_range, Nat.blt_eq, Bool.or_eq_true, Bool.not_eq_true'] at h
  obtain ⟨⟨⟨h1, h2⟩, h3⟩, h4⟩ := h
  refine ⟨by simpa using h1, fun i hi => h2 i hi, fun k hk => h3 k hk, fun i o ho => ?_, fun i o ho => ?_⟩
  · have hi : i < ops.size := (Array.getElem?_eq_some_iff.1 ho).1
    obtain ⟨h5, h6⟩ := h2 i hi
    have hs : σ[permF σ i]? = some i := by
      have hlt : permF σ i < σ.length := by omega
      unfold permG at h6
      rw [List.getD_eq_getElem?_getD, List.getElem?_eq_getElem hlt] at h6
      rw [List.getElem?_eq_getElem hlt]
      simpa using h6
    have ho2 : ops.getD i default = o := by
      obtain ⟨_, h8⟩ := Array.getElem?_eq_some_iff.1 ho
      simp [Array.getD, hi, h8]
    simp [hs, ho]
  · have hm : o ∈ ops.toList := by
      obtain ⟨hi, h8⟩ := Array.getElem?_eq_some_iff.1 ho
      rw [← h8]; simp
    have h9 := h4 o hm
    refine ⟨fun e he hb => ?_, fun j b hg => ?_⟩
    · rcases h9.1 e (by simpa using he) with h | h
      · rw [hb] at h; cases h
      · exact h
    · have := h9.2
      rw [hg] at this
      simpa using this
theorem perm_id {F : Fence} {n : Nat} {P : Program} {Q : Exit → Act → World → Prop} {ops : Array Oper} {a : Act} {w : World} {G nt : Nat} (hok : ∀ o ∈ ops.toList, opOk G nt o = true) :
    (∀ o ∈ (lateOps ops).toList, opOk G nt o = true) ∧ (wpAnyIn F n P .any (lateOps ops) Q (lateOps ops).size (Array.replicate (lateOps ops).size false) a w → wpAnyIn F n P .any ops Q ops.size (Array.replicate ops.size false) a w) := by
  unfold lateOps
  generalize lateOrder ops = σ
  cases ops.toList.any fun o => Nat.beq (kindOf o.op) 2 with
  | false => exact ⟨hok, fun h => h⟩
  | true =>
    simp only [cond]
    unfold permOps
    cases sameN σ 0 with
    | true => exact ⟨hok, fun h => h⟩
    | false =>
      simp only [cond]
      cases hc : permChk ops σ with
      | false => exact ⟨hok, fun h => h⟩
      | true =>
        simp only
        have hP := permChk_spec hc
        have hsz := hP.size
        refine ⟨fun o ho => ?_, fun h => ?_⟩
        · simp only [List.mem_map] at ho
          obtain ⟨k, hk, rfl⟩ := ho
          obtain ⟨i, hi, hik⟩ := List.mem_iff_getElem.1 hk
          have hlen : σ.length = ops.size := by simpa using hsz
          have hg := (hP.gf i (by omega)).1
          have hgk : permG σ i = k := by unfold permG; rw [List.getD_eq_getElem?_getD, List.getElem?_eq_getElem hi]; simpa using hik
          rw [hgk] at hg
          have hm : ops.getD k default ∈ ops.toList := by simp [Array.getD, hg]
          have h := hok _ hm
          exact h
        · rw [hsz] at h
          refine wpAny_perm hP ops.size _ _ a w (by simp) (by simp) (fun i hi => ?_) h
          have := (hP.fg i hi).1
          simp [Array.getD, hi, this]
end Go.Eng

namespace Go.Eng
variable [Shift]
variable {p : Par} {e e' e'' : Env} {H H' : Heap} {w w' w'' : World} {Z : Tab}

theorem setK_form {α : Type} (f : Nat) (t : Tr α) (k : Nat) (x : Option α) : Tr.setK (f + 1) t k x id = if k = 0 then .n x t.lft t.rgt else if k % 2 = 1 then .n t.val (Tr.setK f t.lft (k / 2) x id) t.rgt else .n t.val t.lft (Tr.setK f t.rgt (k / 2 - 1) x id) := by
  rw [Tr.setK_succ]
  by_cases h0 : k = 0
  · subst h0; rfl
  · have h1 : Nat.beq k 0 = false := by
      cases hb : Nat.beq k 0 with
      | false => rfl
      | true => exact absurd (Nat.eq_of_beq_eq_true hb) h0
    rw [h1, if_neg h0]
    simp only [cond]
    by_cases h2 : k % 2 = 1
    · rw [h2, if_pos rfl, show Nat.beq 1 1 = true from rfl]
      simp only [cond]
      rw [Tr.setK_eq]; rfl
    · have h3 : Nat.beq (k % 2) 1 = false := by
        cases hb : Nat.beq (k % 2) 1 with
        | false => rfl
        | true => exact absurd (Nat.eq_of_beq_eq_true hb) h2
      rw [h3, if_neg h2]
      simp only [cond]
      rw [Tr.setK_eq]; rfl
theorem setK_comm {α : Type} : ∀ (f : Nat) (t : Tr α) (a b : Nat) (x y : Option α), a ≠ b →
    (Tr.setK f (Tr.setK f t a x id) b y id) = (Tr.setK f (Tr.setK f t b y id) a x id) := by
  intro f
  induction f with
  | zero => intro t a b x y _; rfl
  | succ f ih =>
    intro t a b x y hne
    simp only [setK_form]
    by_cases ha : a = 0
    · subst ha
      have hb : ¬ b = 0 := fun h => hne h.symm
      by_cases hb2 : b % 2 = 1
      · simp [hb, hb2, Tr.val, Tr.lft, Tr.rgt]
      · simp [hb, hb2, Tr.val, Tr.lft, Tr.rgt]
    · by_cases hb : b = 0
      · subst hb
        by_cases ha2 : a % 2 = 1
        · simp [ha, ha2, Tr.val, Tr.lft, Tr.rgt]
        · simp [ha, ha2, Tr.val, Tr.lft, Tr.rgt]
      · by_cases ha2 : a % 2 = 1 <;> by_cases hb2 : b % 2 = 1
        · simp only [ha, hb, ha2, hb2, if_true, if_false, Tr.val, Tr.lft, Tr.rgt]
          rw [ih _ _ _ _ _ (by omega)]
        · simp [ha, hb, ha2, hb2, Tr.val, Tr.lft, Tr.rgt]
        · simp [ha, hb, ha2, hb2, Tr.val, Tr.lft, Tr.rgt]
        · simp only [ha, hb, ha2, hb2, if_true, if_false, Tr.val, Tr.lft, Tr.rgt]
          rw [ih _ _ _ _ _ (by omega)]
theorem sameTrV_eq : ∀ (s t : Tr Value), sameTrV s t = true → s = t
  | .e, .e, _ => rfl
  | .n none a b, .n none a' b', h => by
    simp only [sameTrV, Bool.and_eq_true] at h
    rw [sameTrV_eq a a' h.1, sameTrV_eq b b' h.2]
  | .n (some v) a b, .n (some v') a' b', h => by
    simp only [sameTrV, Bool.and_eq_true] at h
    rw [sameV_eq _ _ _ h.1.1, sameTrV_eq a a' h.1.2, sameTrV_eq b b' h.2]
  | .e, .n _ _ _, h => by simp [sameTrV] at h
  | .n v _ _, .e, h => by cases v <;> simp [sameTrV] at h
  | .n none _ _, .n (some _) _ _, h => by simp [sameTrV] at h
  | .n (some _) _ _, .n none _ _, h => by simp [sameTrV] at h
theorem sameVs_eq : ∀ (l m : List Value), sameVs l m = true → l = m
  | [], [], _ => rfl
  | a :: l, b :: m, h => by
    simp only [sameVs, Bool.and_eq_true] at h
    rw [sameV_eq _ _ _ h.1, sameVs_eq l m h.2]
  | [], _ :: _, h => by simp [sameVs] at h
  | _ :: _, [], h => by simp [sameVs] at h
theorem sameOb_eq : ∀ (a b : AObj), sameOb a b = true → a = b
  | .cells c el fz g, .cells c' el' fz' g', h => by
    simp only [sameOb, Bool.and_eq_true] at h
    obtain ⟨⟨⟨⟨h1, h2⟩, h3⟩, h4⟩, h5⟩ := h
    obtain ⟨f1, f2⟩ := fz
    obtain ⟨f1', f2'⟩ := fz'
    rw [sameVs_eq _ _ h1, Nat.eq_of_beq_eq_true h2, show f1 = f1' from Nat.eq_of_beq_eq_true h3, show f2 = f2' from Nat.eq_of_beq_eq_true h4, show g = g' from eq_of_beq h5]
  | .cells .., .loop .., h => by simp [sameOb] at h
  | .cells .., .deferred .., h => by simp [sameOb] at h
  | .cells .., .map .., h => by simp [sameOb] at h
  | .loop .., _, h => by simp [sameOb] at h
  | .deferred .., _, h => by simp [sameOb] at h
  | .map .., _, h => by simp [sameOb] at h
theorem sameDl_eq : ∀ (a b : Delta), sameDl a b = true → a = b
  | .same, .same, _ => rfl
  | .new o, .new o', h => by rw [sameOb_eq o o' (by simpa [sameDl] using h)]
  | .set b o, .set b' o', h => by
    simp only [sameDl, Bool.and_eq_true] at h
    rw [Nat.eq_of_beq_eq_true h.1, sameOb_eq _ _ h.2]
  | .grow b o, .grow b' o', h => by
    simp only [sameDl, Bool.and_eq_true] at h
    rw [Nat.eq_of_beq_eq_true h.1, sameOb_eq _ _ h.2]
  | .same, .new _, h | .same, .set _ _, h | .same, .grow _ _, h => by simp [sameDl] at h
  | .new _, .same, h | .new _, .set _ _, h | .new _, .grow _ _, h => by simp [sameDl] at h
  | .set _ _, .same, h | .set _ _, .new _, h | .set _ _, .grow _ _, h => by simp [sameDl] at h
  | .grow _ _, .same, h | .grow _ _, .new _, h | .grow _ _, .set _ _, h => by simp [sameDl] at h
theorem sameLE_eq : ∀ (a b : LogE), sameLE a b = true → a = b
  | .d i d, .d i' d', h => by
    simp only [sameLE, Bool.and_eq_true] at h
    rw [Nat.eq_of_beq_eq_true h.1, sameDl_eq _ _ h.2]
  | .c i f a, .c i' f' a', h => by
    simp only [sameLE, Bool.and_eq_true] at h
    rw [Nat.eq_of_beq_eq_true h.1.1, Nat.eq_of_beq_eq_true h.1.2, sameVs_eq _ _ h.2]
  | .d _ _, .c _ _ _, h => by simp [sameLE] at h
  | .c _ _ _, .d _ _, h => by simp [sameLE] at h

theorem sameBs_eq : ∀ (l m : List Bool), sameBs l m = true → l = m
  | [], [], _ => rfl
  | a :: l, b :: m, h => by
    simp only [sameBs, Bool.and_eq_true] at h
    rw [eq_of_beq h.1, sameBs_eq l m h.2]
  | [], _ :: _, h => by simp [sameBs] at h
  | _ :: _, [], h => by simp [sameBs] at h
/-- What memory is behind what was done. -/
inductive Hp (C : Calls3) (h0 : Heap) : List LogE → Heap → Prop
  | nil : Hp C h0 [] h0
  | d (i : Nat) (d : Delta) {l : List LogE} {h : Heap} (hl : Hp C h0 l h) : Hp C h0 (.d i d :: l) (h.app d)
  | c (i : Nat) (f : FuncId) (args : List Value) {l : List LogE} {h h' : Heap} {v : Value} (hl : Hp C h0 l h) (hc : C.fn f args h = some (.ret v, h')) : Hp C h0 (.c i f args :: l) h'
theorem app_comm (h : Heap) {b b' : Nat} {o o' : AObj} (hne : b ≠ b') : (h.app (.set b o)).app (.set b' o') = (h.app (.set b' o')).app (.set b o) := by
  simp only [Heap.app, Heap.set, Tr.set]
  rw [setK_comm 40 h.m b b' _ _ hne]
theorem apartLE_eq {x y : LogE} (h : apartLE x y = true) : ∃ i b o i' b' o', x = .d i (.set b o) ∧ y = .d i' (.set b' o') ∧ b ≠ b' := by
  unfold apartLE at h
  split at h
  · rename_i i b o i' b' o'
    refine ⟨i, b, o, i', b', o', rfl, rfl, fun e => ?_⟩
    subst e
    simp only [Bool.and_eq_true, Bool.not_eq_true'] at h
    have := h.1.1
    rw [show Nat.beq b b = true from Nat.beq_refl b] at this
    cases this
  · cases h
theorem Hp.det {C : Calls3} {h0 : Heap} : ∀ (l m : List LogE) (h1 h2 : Heap), sameLog l m = true → Hp C h0 l h1 → Hp C h0 m h2 → h1 = h2
  | [], [], _, _, _, .nil, .nil => rfl
  | [], _ :: _, _, _, h, _, _ => by simp [sameLog] at h
  | _ :: _, [], _, _, h, _, _ => by simp [sameLog] at h
  | x :: l, y :: m, h1, h2, h, H1, H2 => by
    unfold sameLog at h
    cases hxy : sameLE x y with
    | true =>
      rw [hxy] at h
      simp only [cond] at h
      have := sameLE_eq x y hxy
      subst this
      cases H1 with
      | d i d hl =>
        cases H2 with
        | d _ _ hl' => rw [Hp.det l m _ _ h hl hl']
      | c i f args hl hc =>
        cases H2 with
        | c _ _ _ hl' hc' =>
          have := Hp.det l m _ _ h hl hl'
          subst this
          rw [hc] at hc'
          cases hc'
          rfl
    | false =>
      rw [hxy] at h
      simp only [cond] at h
      match l, m, H1, H2, h with
      | [], _, _, _, h => simp at h
      | _ :: _, [], _, _, h => simp at h
      | x2 :: l', y2 :: m', H1, H2, h =>
        simp only [Bool.and_eq_true] at h
        obtain ⟨⟨⟨e1, e2⟩, hap⟩, hr⟩ := h
        have := sameLE_eq x y2 e1
        subst this
        have := sameLE_eq x2 y e2
        subst this
        obtain ⟨i, b, o, i', b', o', rfl, rfl, hne⟩ := apartLE_eq hap
        cases H1 with
        | d _ _ hl =>
          cases hl with
          | d _ _ hl =>
            cases H2 with
            | d _ _ hm =>
              cases hm with
              | d _ _ hm =>
                have := Hp.det l' m' _ _ hr hl hm
                subst this
                exact app_comm _ (Ne.symm hne)
theorem insG_ok {C : Calls3} {h0 : Heap} {g : AllE} (hg : Hp C h0 g.log g.h) : ∀ (lv lv' : List AllE), insG g lv = some lv' → (∀ x ∈ lv, Hp C h0 x.log x.h) →
    (∀ x ∈ lv, x ∈ lv') ∧ (∀ x ∈ lv', Hp C h0 x.log x.h) ∧ ∃ x ∈ lv', x.L = g.L ∧ x.T = g.T ∧ x.h = g.h
  | [], lv', h, _ => by
    simp only [insG, Option.some.injEq] at h
    subst h
    exact ⟨by simp, by simpa using hg, g, by simp, rfl, rfl, rfl⟩
  | x :: l, lv', h, hl => by
    unfold insG at h
    cases hb : sameBs x.L.toList g.L.toList with
    | true =>
      rw [hb] at h
      simp only [cond] at h
      split at h
      · rename_i hs
        cases h
        simp only [Bool.and_eq_true] at hs
        refine ⟨fun _ h => h, hl, x, by simp, ?_, sameTrV_eq _ _ hs.1, Hp.det _ _ _ _ hs.2 (hl x (by simp)) hg⟩
        have := sameBs_eq _ _ hb
        exact Array.toList_inj.1 this
      · cases h
    | false =>
      rw [hb] at h
      simp only [cond, Option.map_eq_some_iff] at h
      obtain ⟨l', h1, rfl⟩ := h
      obtain ⟨a1, a2, y, hy, a3⟩ := insG_ok hg l l' h1 (fun z hz => hl z (by simp [hz]))
      refine ⟨fun z hz => ?_, fun z hz => ?_, y, by simp [hy], a3⟩
      · rcases List.mem_cons.1 hz with rfl | hz
        · simp
        · simp [a1 z hz]
      · rcases List.mem_cons.1 hz with rfl | hz
        · exact hl _ (by simp)
        · exact a2 z hz
theorem stepV_ok {C : Calls3} {h0 : Heap} {ops : Array Oper} {i : Nat} {o : Oper} {g g' : AllE} (h : stepV Z C ops i o g = some g') (hg : Hp C h0 g.log g.h) :
    Hp C h0 g'.log g'.h ∧ g'.L = g.L.setIfInBounds i true ∧ ∀ rd ds, step1 Z C rd ops o ⟨g.T, g.h, ds⟩ = some (.normal, ⟨g'.T, g'.h, ds⟩) := by
  unfold stepV at h
  simp only [doOpF_eq] at h
  cases hn : Nat.blt g.h.next 1000000000 with
  | false => rw [hn] at h; simp [cond] at h
  | true =>
  rw [hn] at h
  simp only [Bool.not_true, cond] at h
  cases hw : wantedA o ops g.T with
  | none => rw [hw] at h; simp at h
  | some b =>
    rw [hw] at h
    cases b with
    | false =>
      simp only [Option.some.injEq] at h
      subst h
      refine ⟨hg, rfl, fun rd ds => ?_⟩
      simp [step1, St.elimK_eq, hn, hw, putK_eq]
    | true =>
      simp only at h
      split at h
      · rename_i v hd
        cases h
        refine ⟨hg, rfl, fun rd ds => ?_⟩
        simp [step1, St.elimK_eq, hn, hw, putK_eq, doOpF_eq, hd, Heap.appK_eq, Heap.app]
      · rename_i v d _ hd
        cases h
        refine ⟨.d _ _ hg, rfl, fun rd ds => ?_⟩
        simp [step1, St.elimK_eq, hn, hw, putK_eq, doOpF_eq, hd, Heap.appK_eq]
      · rename_i f args hd
        split at h
        · rename_i v h' hc
          cases h
          refine ⟨.c _ _ _ hg hc, rfl, fun rd ds => ?_⟩
          simp [step1, St.elimK_eq, hn, hw, putK_eq, doOpF_eq, hd, hc]
        · cases h
      · cases h
theorem nextI_ok {C : Calls3} {h0 : Heap} {ops : Array Oper} {g : AllE} (hg : Hp C h0 g.log g.h) : ∀ (is : List Nat) (lv lv' : List AllE), nextI Z C ops g is lv = some lv' → (∀ x ∈ lv, Hp C h0 x.log x.h) →
    (∀ x ∈ lv, x ∈ lv') ∧ (∀ x ∈ lv', Hp C h0 x.log x.h) ∧ ∀ i ∈ is, ∃ o g' x, ops[i]? = some o ∧ stepV Z C ops i o g = some g' ∧ x ∈ lv' ∧ x.L = g'.L ∧ x.T = g'.T ∧ x.h = g'.h
  | [], lv, lv', h, hl => by
    simp only [nextI, Option.some.injEq] at h
    subst h
    exact ⟨fun _ h => h, hl, by simp⟩
  | i :: is, lv, lv', h, hl => by
    unfold nextI at h
    split at h <;> try (cases h; done)
    rename_i o ho
    split at h <;> try (cases h; done)
    rename_i g' hst
    split at h <;> try (cases h; done)
    rename_i lv1 hins
    obtain ⟨a1, a2, y, hy, a3⟩ := insG_ok (stepV_ok hst hg).1 lv lv1 hins hl
    obtain ⟨b1, b2, b3⟩ := nextI_ok hg is lv1 lv' h a2
    refine ⟨fun x hx => b1 x (a1 x hx), b2, fun j hj => ?_⟩
    rcases List.mem_cons.1 hj with rfl | hj
    · exact ⟨o, g', y, ho, hst, b1 y hy, a3⟩
    · exact b3 j hj
theorem nextAll_ok {C : Calls3} {h0 : Heap} {ops : Array Oper} : ∀ (gs lv lv' : List AllE), nextAll Z C ops gs lv = some lv' → (∀ x ∈ gs, Hp C h0 x.log x.h) → (∀ x ∈ lv, Hp C h0 x.log x.h) →
    (∀ x ∈ lv, x ∈ lv') ∧ (∀ x ∈ lv', Hp C h0 x.log x.h) ∧ ∀ g ∈ gs, Region.ready .any ops g.L ≠ [] ∧ ∀ i ∈ Region.ready .any ops g.L, ∃ o g' x, ops[i]? = some o ∧ stepV Z C ops i o g = some g' ∧ x ∈ lv' ∧ x.L = g'.L ∧ x.T = g'.T ∧ x.h = g'.h
  | [], lv, lv', h, _, hl => by
    simp only [nextAll, Option.some.injEq] at h
    subst h
    exact ⟨fun _ h => h, hl, by simp⟩
  | g :: gs, lv, lv', h, hgs, hl => by
    unfold nextAll at h
    split at h <;> try (cases h; done)
    rename_i i is hr
    split at h <;> try (cases h; done)
    rename_i lv1 hn
    cases hlen : Nat.blt lv1.length 40 with
    | false => rw [hlen] at h; cases h
    | true =>
    rw [hlen] at h
    simp only [cond] at h
    obtain ⟨a1, a2, a3⟩ := nextI_ok (hgs g (by simp)) (i :: is) lv lv1 hn hl
    obtain ⟨b1, b2, b3⟩ := nextAll_ok gs lv1 lv' h (fun x hx => hgs x (by simp [hx])) a2
    refine ⟨fun x hx => b1 x (a1 x hx), b2, fun x hx => ?_⟩
    rcases List.mem_cons.1 hx with rfl | hx
    · refine ⟨by rw [hr]; simp, fun j hj => ?_⟩
      rw [hr] at hj
      obtain ⟨o, g', y, c1, c2, c3, c4⟩ := a3 j hj
      exact ⟨o, g', y, c1, c2, b1 y c3, c4⟩
    · exact b3 x hx
theorem runAll_sound (hZ : TOk Z p) {C : Calls3} (hC : COk p C) {h0 : Heap} {r : Option Nat} {nt n : Nat} {ops : Array Oper} {ds : List Deferred} (hnt : nt ≤ 2 ^ 30) (hok : ∀ o ∈ ops.toList, opOk p.G nt o = true) (gf : AllE) :
    ∀ (k : Nat) (lv : List AllE), runAll Z C ops k lv = some gf → (∀ x ∈ lv, Hp C h0 x.log x.h) → ∀ g ∈ lv, ∀ (e : Env) (a : Act) (w : World), SRel p e nt ⟨g.T, g.h, ds⟩ a w →
      ∀ Q : Exit → Act → World → Prop, (∀ e' a' w', Step p e g.h w e' gf.h w' → SRel p e' nt ⟨gf.T, gf.h, ds⟩ a' w' → Q .normal a' w') → wpAnyIn (FR r) n p.P .any ops Q k g.L a w
  | 0, lv, h, _, g, hg, e, a, w, hS, Q, hQ => by
    unfold runAll at h
    split at h <;> try (cases h; done)
    rename_i g1
    split at h <;> try (cases h; done)
    rename_i hr
    cases h
    have : g = gf := by simpa using hg
    subst this
    exact ⟨hr, hQ e a w (Step.refl hS.rel) hS⟩
  | k + 1, lv, h, hl, g, hg, e, a, w, hS, Q, hQ => by
    unfold runAll at h
    split at h <;> try (cases h; done)
    rename_i lv1 hn
    obtain ⟨_, b2, b3⟩ := nextAll_ok (h0 := h0) lv [] lv1 hn hl (by simp)
    obtain ⟨c1, c2⟩ := b3 g hg
    refine ⟨fun h => absurd h c1, fun i hi => ?_⟩
    obtain ⟨o, g', x, ho, hst, hx, e1, e2, e3⟩ := c2 i hi
    obtain ⟨_, hL, h1⟩ := stepV_ok hst (hl g hg)
    have h1 := h1 r.isSome ds
    unfold wpOpIn
    rw [ho]
    refine step1_sound hZ hC rfl hnt hS (hok o ?_) h1 ?_ ?_
    · have := Array.mem_of_getElem? ho
      simpa using this
    · intro _ e' a' w' hs' hS'
      have := runAll_sound hZ hC (r := r) (n := n) hnt hok gf k lv1 h b2 x hx e' a' w' (by rw [e2, e3]; exact hS') Q (fun e2' a2 w2 hs2 hS2 => hQ e2' a2 w2 (hs'.trans (by rw [e3] at hs2; exact hs2)) hS2)
      rw [e1, hL] at this
      exact this
    · intro v hv
      cases hv
theorem stepAll_sound (hZ : TOk Z p) {C : Calls3} (hC : COk p C) (r : Option Nat) (nt n : Nat) (ops : Array Oper) (s s' : St) (ex : Ex) (e : Env) (w : World) (a : Act)
    (hnt : nt ≤ 2 ^ 30) (hS : SRel p e nt s a w) (hok : ∀ o ∈ ops.toList, opOk p.G nt o = true) (h : stepAll Z C ops s = some (ex, s')) :
    wpAnyIn (FR r) n p.P .any ops (Post p e s.h w nt ex s') ops.size (Array.replicate ops.size false) a { w with drawn := w.drawn + 1 } := by
  unfold stepAll at h
  cases hc : (Nat.blt ops.size 60 && s.h.ghost.isEmpty && Nat.blt s.h.next 1000000000) with
  | false => rw [hc] at h; cases h
  | true =>
  rw [hc] at h
  simp only [cond] at h
  split at h <;> try (cases h; done)
  rename_i g hrun
  split at h <;> try (cases h; done)
  cases h
  have hS' : SRel p e nt ⟨s.T, s.h, s.ds⟩ a { w with drawn := w.drawn + 1 } := ⟨hS.rel.drew, hS.tmps, hS.tund, hS.defs, hS.dund⟩
  refine runAll_sound hZ hC (h0 := s.h) (r := r) (n := n) (ds := s.ds) hnt hok g ops.size _ hrun (by simpa using Hp.nil) ⟨Array.replicate ops.size false, s.T, s.h, []⟩ (by simp) e a _ hS' _ ?_
  intro e' a' w' hs hS2
  exact ⟨e', (Step.drew hS.rel).trans hs, hS2, rfl⟩
end Go.Eng

namespace Go.Eng
variable [Shift]
variable {p : Par} {e e' e'' : Env} {H H' : Heap} {w w' w'' : World} {Z : Tab}

theorem fwdX_ok {C : Calls3} {rd : Bool} {ops : Array Oper} : ∀ (l : List Oper) (i : Nat) (s sf : St) (rs : List DRec), fwdX Z C rd ops l i s = .ok rs sf → fwd Z C rd ops l s = some (rs, sf)
  | [], i, s, sf, rs, h => by simp only [fwdX, Fwd.ok.injEq] at h; obtain ⟨rfl, rfl⟩ := h; rfl
  | o :: os, i, s, sf, rs, h => by
    simp only [fwdX] at h
    simp only [fwd]
    split at h
    · cases h
    rename_i b hb
    split at h <;> try (cases h; done)
    rename_i s1 h1
    simp only [hb, h1]
    cases hc : (Nat.ble s.h.next s1.h.next && Nat.blt s1.h.next 1000000000 && s1.h.ghost.isEmpty && Nat.beq s1.ds.length s.ds.length) with
    | false => rw [hc] at h; cases h
    | true =>
      rw [hc] at h
      simp only [cond] at h ⊢
      split at h <;> try (cases h; done)
      rename_i rs1 sf1 hrec
      cases h
      rw [fwdX_ok os (i + 1) s1 _ _ hrec]

theorem keepT_get {T : Tr Value} : ∀ (ts : List Tmp) (t : Tmp) (v : Value), (keepT T ts).get t = some v → t ∈ ts ∧ T.get t = some v
  | [], t, v, h => by simp [keepT, Tr.get_e] at h
  | x :: ts, t, v, h => by
    simp only [keepT] at h
    split at h
    · rename_i u hu
      cases hx : Nat.blt x 1000000000 with
      | false =>
        rw [hx] at h
        obtain ⟨h1, h2⟩ := keepT_get ts t v h
        exact ⟨by simp [h1], h2⟩
      | true =>
        rw [hx] at h
        simp only [cond] at h
        have hlt : @LT.lt Nat _ x 1000000000 := Nat.blt_eq.mp hx
        rw [Tr.get_set _ _ _ _ (by omega)] at h
        by_cases htx : t = x
        · subst htx
          rw [if_pos rfl] at h
          cases h
          exact ⟨by simp, hu⟩
        · rw [if_neg htx] at h
          obtain ⟨h1, h2⟩ := keepT_get ts t v h
          exact ⟨by simp [h1], h2⟩
    · obtain ⟨h1, h2⟩ := keepT_get ts t v h
      exact ⟨by simp [h1], h2⟩

theorem lstP_get (A : Tr Nat) (k : Nat) : ∀ (l : List Oper) (i j : Nat), (lstP A k l i)[j]? = (l[j]?).map fun o => cond (Nat.beq (i + j) k) (probe o) (cond (bitA A (i + j) k) (idle o) o)
  | [], i, j => by simp [lstP]
  | o :: l, i, 0 => by simp [lstP]
  | o :: l, i, j + 1 => by
    simp only [lstP, List.getElem?_cons_succ]
    rw [lstP_get A k l (i + 1) j, show i + 1 + j = i + (j + 1) from by omega]
theorem lstP_length (A : Tr Nat) (k : Nat) : ∀ (l : List Oper) (i : Nat), (lstP A k l i).length = l.length
  | [], i => rfl
  | o :: l, i => by simp [lstP, lstP_length A k l]
theorem after_P (A : Tr Nat) (k i : Nat) (o : Oper) : (cond (Nat.beq i k) (probe o) (cond (bitA A i k) (idle o) o)).after = o.after := by
  cases Nat.beq i k <;> cases bitA A i k <;> rfl
theorem masks_P (A : Tr Nat) (k : Nat) : ∀ (l : List Oper) (j i : Nat) (B : Tr Nat), masks (lstP A k l j) i B = masks l i B
  | [], j, i, B => rfl
  | o :: l, j, i, B => by
    simp only [lstP, masks, after_P]
    split
    · rfl
    · exact masks_P A k l (j + 1) (i + 1) _
theorem effAnc_spec {A : Tr Nat} {k : Nat} : ∀ (rs : List DRec) (i : Nat), effAnc A k rs i = true → ∀ q r, rs[q]? = some r → isEff r.kind = true → bitA A k (i + q) = true
  | [], i, h, q, r, hr, _ => by simp at hr
  | x :: rs, i, h, q, r, hr, he => by
    simp only [effAnc, Bool.and_eq_true] at h
    cases q with
    | zero =>
      simp only [List.getElem?_cons_zero, Option.some.injEq] at hr
      subst hr
      rw [he] at h
      exact h.1
    | succ q =>
      simp only [List.getElem?_cons_succ] at hr
      have := effAnc_spec rs (i + 1) h.2 q r hr he
      rw [show i + (q + 1) = i + 1 + q from by omega]; exact this

section
variable {C : Calls3} {nt : Nat} {ops q : Array Oper} {A W : Tr Nat} {T : Nat → Tr Value} {Hs : Nat → Heap} {Kd lvo hi lo : Nat → Nat}
variable {e0 : Env} {w0 : World} {ds : List Deferred}

/-- The operations with those of them that are not done. -/
def IsP (A : Tr Nat) (k : Nat) (ops q : Array Oper) : Prop := ∀ i, q[i]? = (ops[i]?).map fun o => cond (Nat.beq i k) (probe o) (cond (bitA A i k) (idle o) o)
theorem IsP.same {k : Nat} (hq : IsP A k ops q) {m : Nat} (hm : m ≠ k) (hb : bitA A m k = false) : q[m]? = ops[m]? := by
  have hbeq : Nat.beq m k = false := by
    cases hx : Nat.beq m k with
    | false => rfl
    | true => exact absurd (Nat.eq_of_beq_eq_true hx) hm
  rw [hq m, hbeq, hb]
  cases ops[m]? <;> rfl
theorem IsP.dst {k : Nat} (hq : IsP A k ops q) {m : Nat} {d : Tmp} (hd : (q[m]?).bind (·.dst) = some d) : q[m]? = ops[m]? := by
  have hm : m ≠ k := by
    intro hx
    subst hx
    rw [hq] at hd
    cases ho : ops[m]? with
    | none => rw [ho] at hd; cases hd
    | some o => rw [ho] at hd; simp [probe] at hd
  have hb : bitA A m k = false := by
    cases hx : bitA A m k with
    | false => rfl
    | true =>
      have hbeq : Nat.beq m k = false := by
        cases hx : Nat.beq m k with
        | false => rfl
        | true => exact absurd (Nat.eq_of_beq_eq_true hx) hm
      rw [hq, hbeq, hx] at hd
      cases ho : ops[m]? with
      | none => rw [ho] at hd; cases hd
      | some o => rw [ho] at hd; simp [idle] at hd
  exact hq.same hm hb

theorem Ref.exploreP (R : Ref Z p.G C nt q A W T Hs Kd lvo hi lo) (hZ : TOk Z p) (hC : COk p C) (hnt : nt ≤ 2 ^ 30) (h0 : Rel p e0 (Hs 0) w0) {k : Nat} (hk : k < ops.size)
    (hq : IsP A k ops q) (hsize : q.size = ops.size) {r : Option Nat} {n : Nat} {Q : Exit → Act → World → Prop}
    (hQ : ∀ L j e a w, L k = false → (∀ m, m < q.size → L m = true → ∀ x, bitA A m x = true → L x = true) → (∀ x, bitA A k x = true → L x = true) → Inv p W T Hs Kd lvo q.size nt e0 w0 ds L j e a w → ∀ K, wpOpIn (FR r) n p.P ops Q k K a w) :
    ∀ (fuel : Nat) (listed : Array Bool) (j : Nat) (e : Env) (a : Act) (w : World), listed.size = ops.size → listed.toList.count false ≤ fuel → listed.getD k false = false →
      (∀ m, m < q.size → listed.getD m false = true → ∀ x, bitA A m x = true → listed.getD x false = true) →
      Inv p W T Hs Kd lvo q.size nt e0 w0 ds (fun m => listed.getD m false) j e a w → wpAnyIn (FR r) n p.P .any ops Q fuel listed a w := by
  have hrd : ∀ (listed : Array Bool) i, i ∈ Region.ready .any ops listed ↔ i ∈ Region.ready .any q listed := by
    intro listed i
    rw [mem_ready, mem_ready]
    constructor
    · rintro ⟨h1, o, ho, h2⟩
      exact ⟨h1, _, by rw [hq, ho]; rfl, by rw [after_P]; exact h2⟩
    · rintro ⟨h1, o, ho, h2⟩
      rw [hq] at ho
      obtain ⟨o', ho', rfl⟩ := Option.map_eq_some_iff.1 ho
      exact ⟨h1, o', ho', by rw [after_P] at h2; exact h2⟩
  have hnil : ∀ (listed : Array Bool), listed.size = ops.size → listed.getD k false = false → Region.ready .any ops listed = [] → False := by
    intro listed hsz hlk hr
    have hr' : Region.ready .any q listed = [] := by
      apply List.eq_nil_iff_forall_not_mem.2
      intro i hi'
      have := (hrd listed i).2 hi'
      rw [hr] at this; cases this
    have := R.all_listed (by omega) hr' k (by omega)
    rw [hlk] at this; cases this
  intro fuel
  induction fuel with
  | zero =>
    intro listed j e a w hsz hcount hlk hcl h
    exfalso
    have hkl : k < listed.size := by omega
    have h2 : listed[k] = false := by simpa [Array.getD, hkl] using hlk
    have h3 : false ∈ listed.toList := by
      rw [← h2]; exact Array.mem_toList_iff.2 (Array.getElem_mem hkl)
    have := List.count_pos_iff.2 h3
    omega
  | succ fuel ih =>
    intro listed j e a w hsz hcount hlk hcl h
    refine ⟨fun hr => (hnil listed hsz hlk hr).elim, ?_⟩
    intro i hir
    have hirq := (hrd listed i).1 hir
    obtain ⟨h1, oq, hoq, hpre⟩ := mem_ready.1 hirq
    have hi' : i < q.size := (Array.getElem?_eq_some_iff.1 hoq).1
    have hil : i < listed.size := by omega
    have h2 : listed[i] = false := by simpa [Array.getD, hil] using h1
    have hLi : listed.getD i false = false := by simp [Array.getD, hil, h2]
    have hanc : ∀ x, bitA A i x = true → listed.getD x false = true := by
      intro x hx
      obtain ⟨y, hy, hb, hor⟩ := R.anc i oq hoq x hx
      have hyl := hpre y hy hb
      rcases hor with rfl | hor
      · exact hyl
      · have := R.bind i oq hoq y hy hb
        exact hcl y.on (by omega) hyl x hor
    by_cases hik : i = k
    · subst hik
      exact hQ _ j e a w hLi hcl hanc h _
    have hnd : bitA A i k = false := by
      cases hb : bitA A i k with
      | false => rfl
      | true =>
        have := hanc k hb
        rw [hlk] at this; cases this
    have hoi : ops[i]? = some oq := by rw [← hq.same hik hnd]; exact hoq
    have hconv : ∀ K, wpOpIn (FR r) n p.P q Q i K a w → wpOpIn (FR r) n p.P ops Q i K a w := by
      intro K hh
      unfold wpOpIn at hh ⊢
      simp only [hoq] at hh
      simp only [hoi]
      have hwant : Region.wanted oq (yielded ops a.tmps) = Region.wanted oq (yielded q a.tmps) := by
        obtain ⟨b, hb, _⟩ := R.fact i oq hoq
        unfold Region.wanted
        unfold wantedA at hb
        cases hg : oq.guard with
        | none => rfl
        | some g =>
          obtain ⟨m, want⟩ := g
          rw [hg] at hb
          simp only at hb ⊢
          split at hb
          · cases hb
          · rename_i d hd
            unfold yielded
            rw [hq.dst hd]
      rw [hwant]
      exact hh
    refine hconv _ (R.opStep (L := fun m => listed.getD m false) hZ hC hnt h0 h hi' hLi hcl hanc ?_)
    intro j1 e1 a1 w1 hinv
    have hget : ∀ m, (listed.setIfInBounds i true).getD m false = upd (fun m => listed.getD m false) i m := by
      intro m
      by_cases hmi : m = i
      · subst hmi; simp [upd, Array.getD, hil]
      · have : i ≠ m := fun hx => hmi hx.symm
        simp only [upd, if_neg hmi]
        simp only [Array.getD_eq_getD_getElem?, Array.getElem?_setIfInBounds_ne this]
    refine ih _ j1 e1 a1 w1 (by simpa using hsz) ?_ ?_ ?_ ?_
    · have := count_set (l := listed.toList) (i := i) (by simp [hil, h2])
      rw [Array.toList_setIfInBounds]
      omega
    · rw [hget]
      simp only [upd, if_neg (fun hx : k = i => hik hx.symm)]
      exact hlk
    · intro m hm hLm x hx
      rw [hget] at hLm ⊢
      by_cases hxi : x = i
      · simp [upd, hxi]
      · simp only [upd, if_neg hxi]
        by_cases hmi : m = i
        · subst hmi; exact hanc x hx
        · simp only [upd, if_neg hmi] at hLm
          exact hcl m hm hLm x hx
    · rw [show (fun m => (listed.setIfInBounds i true).getD m false) = upd (fun m => listed.getD m false) i from funext hget]
      exact hinv
end

theorem stepP_sound (hZ : TOk Z p) {C : Calls3} (hC : COk p C) (r : Option Nat) (nt n id : Nat) (ops : Array Oper) (s s' : St) (ex : Ex) (e : Env) (w : World) (a : Act) (k : Nat) (hsz : ops.size < 1000) (hgh0 : s.h.ghost = []) (hnx : s.h.next < 1000000000)
    (hnt : nt ≤ 2 ^ 30) (hS : SRel p e nt s a w) (hok : ∀ o ∈ ops.toList, opOk p.G nt o = true) (h : stepP Z C r.isSome ops s k = some (ex, s')) :
    wpAnyIn (FR r) n p.P .any ops (Post p e s.h w nt ex s') ops.size (Array.replicate ops.size false) a { w with drawn := w.drawn + 1 } := by
  simp only [stepP] at h
  split at h <;> try (cases h; done)
  rename_i A ok hA hok'
  split at h <;> try (cases h; done)
  rename_i W rs sf hW hfwd
  generalize hql : lstP A k ops.toList 0 = ql at h hW hfwd
  cases hchk : (chkAll Z A W (rs.map (·.kind)) (lvos A (rs.map (·.kind)) (rs.map (·.kind)) 0) (rs.map (·.h) ++ [sf.h]) ⟨ql⟩ ql rs 0 && effAnc A k rs 0) with
  | false => rw [hchk] at h; cases h
  | true =>
  rw [hchk] at h
  simp only [cond] at h
  simp only [Bool.and_eq_true] at hchk
  split at h <;> try (cases h; done)
  rename_i rk hrk
  split at h <;> try (cases h; done)
  rename_i v s1 hstep1
  cases h
  have hlen : ql.length = ops.size := by rw [← hql, lstP_length]; simp
  have hqget : IsP A k ops ⟨ql⟩ := by
    intro i
    have := lstP_get A k ops.toList 0 i
    rw [hql, Nat.zero_add] at this
    simpa using this
  have hqok : ∀ o ∈ ql, opOk p.G nt o = true := by
    intro o ho
    obtain ⟨i, hi⟩ := List.mem_iff_getElem?.1 ho
    have h1 := hqget i
    rw [show (⟨ql⟩ : Array Oper)[i]? = ql[i]? from by simp, hi] at h1
    obtain ⟨o', ho', rfl⟩ := Option.map_eq_some_iff.1 h1.symm
    have hoo := hok o' (by simpa using Array.mem_of_getElem? ho')
    simp only [opOk, Bool.and_eq_true, List.all_eq_true] at hoo
    cases Nat.beq i k
    · cases bitA A i k
      · simp only [cond, opOk, Bool.and_eq_true, List.all_eq_true]; exact hoo
      · simp [cond, idle, opOk, Op.operands, operandOk, plain]
    · simp only [cond, probe, opOk, Op.operands, Bool.true_and, List.all_eq_true, Array.append_empty]
      exact hoo.2
  have hmq : masks ql 0 .e = some A := by rw [← hql, masks_P]; exact hA
  have h0 : stepD0 Z C r.isSome ⟨ql⟩ s = some (.normal, sf) := by
    simp only [stepD0, hmq, hW, hfwd, hchk.1]
    rw [show (⟨ql⟩ : Array Oper).size = ops.size from hlen, show Nat.blt ops.size 1000 = true from Nat.blt_eq.mpr hsz, show Nat.blt s.h.next 1000000000 = true from Nat.blt_eq.mpr hnx, hgh0]
    rfl
  obtain ⟨_, hds, A', W', rs', lvo, hi, lo, hA', hW', hfwd', R, hT0, hH0, hTk, hHk⟩ := stepD0_refX (G := p.G) hnt (by simpa using hqok) h0
  simp only at hA' hW' hfwd'
  obtain rfl : A = A' := Option.some.inj (hmq.symm.trans hA')
  obtain rfl : W = W' := Option.some.inj (hW.symm.trans hW')
  obtain rfl : rs = rs' := (Prod.mk.inj (Option.some.inj (hfwd.symm.trans hfwd'))).1
  have hk : k < ops.size := (Array.getElem?_eq_some_iff.1 hok').1
  have hqsz : (⟨ql⟩ : Array Oper).size = ops.size := hlen
  have hrsl : rs.length = ops.size := by
    have := (fwd_spec _ _ _ _ hfwd).1
    omega
  have heff : ∀ m, m < (⟨ql⟩ : Array Oper).size → isEff (Ki rs m) = true → bitA A k m = true := by
    intro m hm he
    have hm' : m < rs.length := by omega
    have := effAnc_spec rs 0 hchk.2 m rs[m] (by simp [hm']) (by simpa [Ki, hm'] using he)
    rwa [Nat.zero_add] at this
  have h0' : Rel p e (Hi rs sf 0) { w with drawn := w.drawn + 1 } := by rw [hH0]; exact hS.rel.drew
  have hrep : ∀ m, (Array.replicate ops.size false).getD m false = false := by
    intro m
    by_cases hm : m < ops.size <;> simp [Array.getD, hm]
  have hinit : Inv p W (Ti rs sf) (Hi rs sf) (Ki rs) lvo (⟨ql⟩ : Array Oper).size nt e { w with drawn := w.drawn + 1 } a.defers (fun m => (Array.replicate ops.size false).getD m false) 0 e a { w with drawn := w.drawn + 1 } := by
    refine ⟨Nat.zero_le _, fun m hm => by omega, .refl h0', hS.tmps.1, rfl, ?_, ?_, ?_⟩
    · intro t v hv
      have hcur : s.T.get t = some v := by
        rw [← hT0, ← hv]
        unfold cur
        cases W.get t with
        | none => rfl
        | some q => simp only [hrep]; rfl
      refine ⟨hS.tmps.2 t v hcur, (hS.tund t v hcur).mono ?_⟩
      intro b hb
      have h1 : b < (Hi rs sf 0).next := by rw [hH0]; exact hb.1
      have h2 : tl W lvo (fun m => (Array.replicate ops.size false).getD m false) t = 0 := by
        unfold tl
        cases W.get t with
        | none => rfl
        | some q => simp only [hrep]; rfl
      rw [h2]
      exact ⟨h1, .inl h1⟩
    · intro m _ _ _ hL
      simp only [hrep] at hL; cases hL
    · intro m m' _ _ _ hL
      simp only [hrep] at hL; cases hL
  refine R.exploreP hZ hC hnt h0' hk hqget hqsz ?_ ops.size (Array.replicate ops.size false) 0 e a _ (by simp) ?_ (hrep k) (fun m _ hL => by rw [hrep] at hL; cases hL) hinit
  · intro L j e1 a1 w1 hLk hcl hanc hinv K
    obtain ⟨j', _, hj', _, hinv'⟩ := R.promoteTo h0'.siz (⟨ql⟩ : Array Oper).size (Nat.le_refl _) (fun m hm he => hanc m (heff m hm he)) hinv
    have : j' = (⟨ql⟩ : Array Oper).size := by have := hinv'.jk; omega
    subst this
    have hstep := hinv'.step
    rw [hHk, hH0] at hstep
    have hst : Step p e s.h w e1 sf.h w1 := (Step.drew hS.rel).trans hstep
    have hgh := R.gh (⟨ql⟩ : Array Oper).size (Nat.le_refl _)
    rw [hHk] at hgh
    have hqk : (⟨ql⟩ : Array Oper)[k]? = some (probe ok) := by
      rw [hqget k, hok']
      simp [show Nat.beq k k = true from Nat.beq_refl k]
    have hTkk : rk.T = Ti rs sf k := by simp [Ti, hrk]
    obtain ⟨b, hb, _, _, _⟩ := R.fact k _ hqk
    have hcond : ∀ t, t ∈ operTmps ops ok → ∀ q, W.get t = some q → (q < k → bitA A k q = true) ∧ (k < q → bitA A q k = true) := by
      intro t ht q hq
      simp only [operTmps, List.mem_append] at ht
      rcases ht with ht | ht
      · obtain ⟨x, hx, hxt⟩ := List.mem_filterMap.1 ht
        have hx' : x = .tmp t := by
          cases x <;> simp at hxt
          rw [hxt]
        have hxo : x ∈ (probe ok).op.operands.toList := by simpa [probe, Op.operands] using hx
        have := R.chkO k _ hqk x hxo t hx' q hq
        exact ⟨fun hlt => (this.1 hlt).1, this.2⟩
      · cases hg : ok.guard with
        | none => rw [hg] at ht; simp at ht
        | some g =>
          obtain ⟨m, want⟩ := g
          rw [hg] at ht
          simp only at ht
          unfold wantedA at hb
          simp only [probe, hg] at hb
          split at hb
          · cases hb
          · rename_i d hd
            have hd' : (ops[m]?).bind (·.dst) = some d := by rw [← hqget.dst hd]; exact hd
            rw [hd'] at ht
            simp only [List.mem_singleton] at ht
            subst ht
            have := R.chkG k _ hqk m want t (by simp [probe, hg]) hd q hq
            exact this
    have hval : ∀ t v, (keepT rk.T (operTmps ops ok)).get t = some v → a1.tmps[t]? = some (ren e1 v) ∧ Und sf.h.D v := by
      intro t v hv
      obtain ⟨ht, hTv⟩ := keepT_get _ _ _ hv
      have hcur := R.see hnt (i := k) (by omega) hLk hcl hanc (t := t) (hcond t ht)
      rw [hTkk] at hTv
      have := hinv'.val t v (by rw [hcur]; exact hTv)
      refine ⟨this.1, this.2.mono ?_⟩
      rintro b ⟨_, h2⟩
      rcases h2 with h2 | ⟨m, h3, h4, _⟩
      · rw [hHk] at h2
        exact ⟨h2, by rw [hgh]; simp⟩
      · omega
    have hS1 : SRel p e1 nt ⟨keepT rk.T (operTmps ops ok), sf.h, s.ds⟩ a1 w1 := by
      refine ⟨hst.rel, ⟨hinv'.size, fun t v hv => (hval t v hv).1⟩, fun t v hv => (hval t v hv).2, ?_, fun d hd => (hS.dund d hd).mono hst.sub⟩
      rw [hinv'.dfs, hS.defs]
      exact dmap_eq hS.dund hst.agree
    unfold wpOpIn
    rw [hok']
    simp only
    refine step1_sound hZ hC rfl hnt hS1 (hok ok (by simpa using Array.mem_of_getElem? hok')) hstep1 (fun hx => by cases hx) ?_
    intro v' hv' e2 w2 hst2 hS2 hu2
    cases hv'
    exact ⟨e2, hst.trans hst2, hS2, rfl, hu2⟩
  · simp [List.count_replicate]

theorem stepD1_sound (hZ : TOk Z p) {C : Calls3} (hC : COk p C) (r : Option Nat) (nt n id : Nat) (ops : Array Oper) (s s' : St) (ex : Ex) (e : Env) (w : World) (a : Act)
    (hnt : nt ≤ 2 ^ 30) (hS : SRel p e nt s a w) (hok : ∀ o ∈ ops.toList, opOk p.G nt o = true) (h : stepD1 Z C r.isSome ops s = some (ex, s')) :
    wpAnyIn (FR r) n p.P .any ops (Post p e s.h w nt ex s') ops.size (Array.replicate ops.size false) a { w with drawn := w.drawn + 1 } := by
  simp only [stepD1] at h
  cases hc : (Nat.blt ops.size 1000 && s.h.ghost.isEmpty && Nat.blt s.h.next 1000000000) with
  | false => rw [hc] at h; cases h
  | true =>
  rw [hc] at h
  simp only [cond] at h
  have hc' := hc
  simp only [Bool.and_eq_true, Nat.blt_eq, List.isEmpty_iff] at hc'
  split at h
  · rename_i rs sf hf
    have hfwd := fwdX_ok _ _ _ _ _ hf
    refine stepD0_sound hZ hC r nt n id ops s s' ex e w a hnt hS hok ?_
    simp only [stepD0, hc, hfwd]
    split at h <;> try (cases h; done)
    rename_i A W hA hW
    simp only [hA, hW]
    exact h
  · exact stepP_sound hZ hC r nt n id ops s s' ex e w a _ hc'.1.1 hc'.1.2 hc'.2 hnt hS hok h
  · cases h

theorem stepD_sound (hZ : TOk Z p) {C : Calls3} (hC : COk p C) : DOk Z p C := by
  intro r nt n id ops s s' ex e w a hnt hS hok h
  unfold stepD at h
  refine wpIn_region_any hZ.mixed ?_
  split at h
  · rename_i q hq
    cases h
    exact (perm_id hok).2 (stepD1_sound hZ hC r nt n id (lateOps ops) s s' ex e w a hnt hS (perm_id (F := FR r) (n := n) (P := p.P) (Q := Post p e s.h w nt ex s') (a := a) (w := w) hok).1 hq)
  · exact stepAll_sound hZ hC r nt n ops s s' ex e w a hnt hS hok h
/-- **All calls.** -/
theorem calls_ok (hZ : TOk Z p) {fuel : Nat} (k : Nat) : COk p (calls Z fuel k) := calls_sound hZ (fun _ hC => stepD_sound hZ hC) k
end Go.Eng

namespace Go.Eng
variable [Shift]
open Go.RowKit
variable {p : Par} {e e' e'' : Env} {H H' : Heap} {w w' w'' : World} {Z : Tab}

theorem Step.below (h : Step p e H w e' H' w') (hB : p.B = w.heap.size) (hR : Rel p e H w) : Below w.heap.size w w' := by
  refine ⟨h.os, h.tape, h.output, h.size, fun k hk => h.keep k hk ?_⟩
  rintro ⟨b, o, hb, hn, hr⟩
  have := hR.own b o hb hn
  omega

/-- What the evaluator says of a call, of every fence for activations of functions. -/
theorem calls_of_run (hZ : TOk Z p) {fuel k : Nat} {f : FuncId} {args : List Value} {H' : Heap} {r : Res} (h : (calls Z fuel k).fn f args H = some (r, H')) (hR : Rel p e H w) (hu : ∀ a ∈ args, Und H.D a) :
    Calls p.P f (args.map (ren e)).toArray w (RPost p e H w r H') :=
  callsIn_wide.1 ((calls_ok hZ (fuel := fuel) k).fn f args H r H' h e w 0 hR hu)

theorem closed_true (hZ : TOk Z p) {fuel k : Nat} {f : FuncId} {H' : Heap} (h : (calls Z fuel k).fn f [] H = some (.ret (.bool true), H')) (hR : Rel p e H w) (hB : p.B = w.heap.size) :
    Calls p.P f #[] w fun en w' => en = .returned (.bool true) ∧ Below w.heap.size w w' := by
  have := calls_of_run hZ h hR (by simp)
  refine this.mono ?_
  rintro en w' ⟨e', hst, rfl, _⟩
  exact ⟨by simp, hst.below hB hR⟩
end Go.Eng

namespace Go.Eng
variable [Shift]

theorem Tr.get_ofListGo {α : Type} : ∀ (l : List α) (k : Nat) (t : Tr α) (j : Nat), k + l.length < 2 ^ 40 → (Tr.ofList.go l k t).get j = if k ≤ j ∧ j < k + l.length then l[j - k]? else t.get j
  | [], k, t, j, _ => by simp only [Tr.ofList.go, List.length_nil]; rw [if_neg (by omega)]
  | x :: l, k, t, j, h => by
    simp only [List.length_cons] at h
    simp only [Tr.ofList.go, List.length_cons]
    rw [Tr.setK_eq, Tr.get_ofListGo l (k + 1) _ j (by omega), Tr.get_setK 40 _ _ _ _ (by omega)]
    by_cases h1 : k + 1 ≤ j ∧ j < k + 1 + l.length
    · rw [if_pos h1, if_pos (by omega)]
      obtain ⟨q, hq⟩ : ∃ q, j - k = q + 1 := ⟨j - k - 1, by omega⟩
      rw [hq, List.getElem?_cons_succ]; congr 1; omega
    · rw [if_neg h1]
      by_cases h2 : j = k
      · subst h2; rw [if_pos rfl, if_pos (by omega)]; simp
      · rw [if_neg h2, if_neg (by omega)]
theorem Tr.get_ofList {α : Type} (l : List α) (j : Nat) (h : l.length < 2 ^ 40) : (Tr.ofList l).get j = l[j]? := by
  unfold Tr.ofList
  rw [Tr.get_ofListGo l 0 _ j (by omega)]
  by_cases hj : j < l.length
  · rw [if_pos (by omega)]; simp
  · rw [if_neg (by omega)]; simp [Tr.get_e, List.getElem?_eq_none (Nat.le_of_not_lt hj)]

def undOf (ty : Tr TypeInfo) (t : Nat) : Option TypeDesc :=
  match ty.get t with
  | none => none
  | some i =>
    match i.desc with
    | .named _ u => match ty.get u with | some j => some j.desc | none => none
    | d => some d
def fnOf (fns : Tr Func) (f : Nat) : Option Func :=
  match fns.get f with
  | some fn => match fn.body with | some _ => some fn | none => none
  | none => none
def tabOf (ty : Tr TypeInfo) (fns : Tr Func) (idx cmp : Nat) (N0 : Nat) (eqs : List Nat) : Tab :=
  { info := ty.get, und := undOf ty, fn := fnOf fns, ext := fun f => cond (Nat.beq f idx) (some .indexByte) (cond (Nat.beq f cmp) (some .compare) none), N0 := N0, eqOk := fun t => eqs.any (Nat.beq t) }

/-- The same of a program that has no IndexByteString. -/
def tabC (ty : Tr TypeInfo) (fns : Tr Func) (cmp : Nat) (N0 : Nat) (eqs : List Nat) : Tab :=
  { info := ty.get, und := undOf ty, fn := fnOf fns, ext := fun f => cond (Nat.beq f cmp) (some .compare) none, N0 := N0, eqOk := fun t => eqs.any (Nat.beq t) }

def okFn (G : Nat) (fn : Func) : Bool :=
  match fn.body with
  | some c => cOk G fn.ntmps c && Nat.ble fn.ntmps 1000000 && !(fn.name == "runtime.NumGoroutine")
  | none => true

theorem run_indexByte {P : Program} (s : ByteArray) (c : Int) (w : World) : (Extern.BytealgIndexByte.indexByte #[.string s, .int .u8 c]).run P w =
    .ok (match (List.range s.size).find? fun i => s[i]! == UInt8.ofNat c.toNat with | some i => goInt i | none => goInt (-1)) w := by
  change Sem.run P (do
    let b ← Extern.Bytes.bytesOf (.string s)
    let c ← Extern.Bytes.asByte (.int .u8 c)
    match (List.range b.size).find? fun i => b[i]! == c with
    | some i => pure (goInt i)
    | none => pure (goInt (-1))) w = _
  simp only [Extern.Bytes.bytesOf, Extern.Bytes.asByte, Sem.run_bind, Sem.run_pure, Result.andThen_ok]
  split
  · rename_i i h
    rw [show List.find? (fun i => s[i]! == UInt8.ofNat c.toNat) (List.range s.size) = some i from h]; rfl
  · rename_i h
    rw [show List.find? (fun i => s[i]! == UInt8.ofNat c.toNat) (List.range s.size) = none from h]; rfl

theorem tabOf_ok {p : Par} {idx cmp : Nat} {fi fc : Func} {eqs : List Nat} (heqs : eqs.all (fun t => !p.P.stoodInHeld t && !p.P.eqGuardType p.P.depth t) = true) (hty : p.P.types.size < 2 ^ 40) (hfn : p.P.funcs.size < 2 ^ 40) (hok : p.P.funcs.toList.all (okFn p.G) = true) (hmix : p.P.follows .mixedOrders = true)
    (hi : p.P.funcs[idx]? = some fi) (hin : (fi.name == "runtime.NumGoroutine") = false) (hib : fi.body.isNone = true) (hix : Extern.findNext fi = none) (hie : Extern.find fi = some Extern.BytealgIndexByte.indexByte)
    (hc : p.P.funcs[cmp]? = some fc) (hcn : (fc.name == "runtime.NumGoroutine") = false) (hcb : fc.body.isNone = true) (hcx : Extern.findNext fc = none) (hce : Extern.find fc = some Extern.BytealgCompare.compare) :
    TOk (tabOf (Tr.ofList p.P.types.toList) (Tr.ofList p.P.funcs.toList) idx cmp p.N0 eqs) p := by
  have hinfo : ∀ t i, (Tr.ofList p.P.types.toList).get t = some i → p.P.info? t = some i := by
    intro t i h
    rw [Tr.get_ofList _ _ (by simpa using hty)] at h
    have h' : p.P.types[t]? = some i := by simpa using h
    have hlt := (Array.getElem?_eq_some_iff.1 h').1
    show p.P.toTables.info? t = some i
    unfold Tables.info?
    rw [if_pos hlt]; exact h'
  refine ⟨hinfo, ?_, ?_, ?_, ?_, rfl, hmix, fun t ht => ?_⟩
  · intro t d h
    simp only [tabOf, undOf] at h
    split at h
    · cases h
    rename_i i hi
    have h1 := hinfo _ _ hi
    unfold Program.underlying
    rw [h1]
    split at h
    · rename_i n u hd
      split at h
      · rename_i j hj
        have h2 := hinfo _ _ hj
        cases h
        cases i
        simp only at hd
        subst hd
        simp [h2]
      · cases h
    · rename_i hd
      cases h
      cases i with
      | mk desc =>
        simp only at hd ⊢
        cases desc <;> first | (exact (hd _ _ rfl).elim) | rfl
  · intro f fn h
    simp only [tabOf, fnOf] at h
    split at h <;> try (cases h; done)
    rename_i fn' hf
    split at h <;> try (cases h; done)
    rename_i c hb
    cases h
    rw [Tr.get_ofList _ _ (by simpa using hfn)] at hf
    have hf' : p.P.funcs[f]? = some fn := by simpa using hf
    have := List.all_eq_true.1 hok fn (List.mem_of_getElem? hf)
    simp only [okFn, hb, Bool.and_eq_true, Bool.not_eq_true'] at this
    have hle := Nat.le_of_ble_eq_true this.1.2
    exact ⟨hf', ⟨c, hb, this.1.1, by omega⟩, this.2⟩
  · intro f hf s c w
    have : f = idx := by
      simp only [tabOf] at hf
      cases hb : Nat.beq f idx with
      | true => exact Nat.eq_of_beq_eq_true hb
      | false =>
        rw [hb] at hf
        cases hb2 : Nat.beq f cmp <;> rw [hb2] at hf <;> cases hf
    subst this
    rw [run_callFunc_extern hi hin hib hix hie]
    rw [run_indexByte]
    rfl
  · intro f hf a b w
    have : f = cmp := by
      simp only [tabOf] at hf
      cases hb2 : Nat.beq f cmp with
      | true => exact Nat.eq_of_beq_eq_true hb2
      | false =>
        rw [hb2] at hf
        cases hb : Nat.beq f idx <;> rw [hb] at hf <;> cases hf
    subst this
    rw [run_callFunc_extern hc hcn hcb hcx hce]
    rw [Lib.run_compareString, ← Lib.cmp_eq]
    rfl
  · simp only [tabOf, List.any_eq_true] at ht
    obtain ⟨u, hu, hb⟩ := ht
    have := Nat.eq_of_beq_eq_true hb
    subst this
    have := List.all_eq_true.1 heqs _ hu
    simpa using this
theorem tabC_ok {p : Par} {cmp : Nat} {fc : Func} {eqs : List Nat} (heqs : eqs.all (fun t => !p.P.stoodInHeld t && !p.P.eqGuardType p.P.depth t) = true) (hty : p.P.types.size < 2 ^ 40) (hfn : p.P.funcs.size < 2 ^ 40) (hok : p.P.funcs.toList.all (okFn p.G) = true) (hmix : p.P.follows .mixedOrders = true)
    (hc : p.P.funcs[cmp]? = some fc) (hcn : (fc.name == "runtime.NumGoroutine") = false) (hcb : fc.body.isNone = true) (hcx : Extern.findNext fc = none) (hce : Extern.find fc = some Extern.BytealgCompare.compare) :
    TOk (tabC (Tr.ofList p.P.types.toList) (Tr.ofList p.P.funcs.toList) cmp p.N0 eqs) p := by
  have hinfo : ∀ t i, (Tr.ofList p.P.types.toList).get t = some i → p.P.info? t = some i := by
    intro t i h
    rw [Tr.get_ofList _ _ (by simpa using hty)] at h
    have h' : p.P.types[t]? = some i := by simpa using h
    have hlt := (Array.getElem?_eq_some_iff.1 h').1
    show p.P.toTables.info? t = some i
    unfold Tables.info?
    rw [if_pos hlt]; exact h'
  refine ⟨hinfo, ?_, ?_, ?_, ?_, rfl, hmix, fun t ht => ?_⟩
  · intro t d h
    simp only [tabC, undOf] at h
    split at h
    · cases h
    rename_i i hi
    have h1 := hinfo _ _ hi
    unfold Program.underlying
    rw [h1]
    split at h
    · rename_i n u hd
      split at h
      · rename_i j hj
        have h2 := hinfo _ _ hj
        cases h
        cases i
        simp only at hd
        subst hd
        simp [h2]
      · cases h
    · rename_i hd
      cases h
      cases i with
      | mk desc =>
        simp only at hd ⊢
        cases desc <;> first | (exact (hd _ _ rfl).elim) | rfl
  · intro f fn h
    simp only [tabC, fnOf] at h
    split at h <;> try (cases h; done)
    rename_i fn' hf
    split at h <;> try (cases h; done)
    rename_i c hb
    cases h
    rw [Tr.get_ofList _ _ (by simpa using hfn)] at hf
    have hf' : p.P.funcs[f]? = some fn := by simpa using hf
    have := List.all_eq_true.1 hok fn (List.mem_of_getElem? hf)
    simp only [okFn, hb, Bool.and_eq_true, Bool.not_eq_true'] at this
    have hle := Nat.le_of_ble_eq_true this.1.2
    exact ⟨hf', ⟨c, hb, this.1.1, by omega⟩, this.2⟩
  · intro f hf s c w
    simp only [tabC] at hf
    cases hb2 : Nat.beq f cmp <;> rw [hb2] at hf <;> cases hf
  · intro f hf a b w
    have : f = cmp := by
      simp only [tabC] at hf
      cases hb2 : Nat.beq f cmp with
      | true => exact Nat.eq_of_beq_eq_true hb2
      | false =>
        rw [hb2] at hf
        cases hf
    subst this
    rw [run_callFunc_extern hc hcn hcb hcx hce]
    rw [Lib.run_compareString, ← Lib.cmp_eq]
    rfl
  · simp only [tabC, List.any_eq_true] at ht
    obtain ⟨u, hu, hb⟩ := ht
    have := Nat.eq_of_beq_eq_true hb
    subst this
    have := List.all_eq_true.1 heqs _ hu
    simpa using this
end Go.Eng

namespace Go.Eng

def flatParts (g : TypeId → DataW Unit → Option (List Value)) (sz : TypeId → Nat) : List (Nat × TypeId) → List (DataW Unit) → Nat → Option (List Value)
  | [], [], _ => some []
  | (off, t) :: ps, d :: ds, k => if off = k then (match g t d with | some c => if c.length = sz t then (flatParts g sz ps ds (k + sz t)).map (c ++ ·) else none | none => none) else none
  | _, _, _ => none
def flatD (P : Program) : Nat → TypeId → DataW Unit → Option (List Value)
  | 0, _, _ => none
  | n + 1, t, d =>
    match P.underlying t, d with
    | some .bool, .lit (.bool b) => some [.bool b]
    | some (.int k), .lit (.int k' z) => if k' = k then some [.int k z] else none
    | some .string, .lit (.string l) => some [.string ⟨l.toArray⟩]
    | some (.struct fs), .agg ds => flatParts (flatD P n) P.cellsOf (fs.toList.map fun f => (f.offset, f.type)) ds 0
    | some (.array m e), .agg ds => flatParts (flatD P n) P.cellsOf ((List.range m).map fun i => (i * P.cellsOf e, e)) ds 0
    | _, _ => none

theorem flatParts_sound {g : TypeId → DataW Unit → Option (List Value)} {sz : TypeId → Nat} {cs : List Value} : ∀ (ps : List (Nat × TypeId)) (ds : List (DataW Unit)) (k : Nat) (r : List Value),
    (∀ (i off : Nat) (t : TypeId) (d : DataW Unit), ps[i]? = some (off, t) → ds[i]? = some d → ∀ c, g t d = some c → c.length = sz t → (cs.drop off).take (sz t) = c) → flatParts g sz ps ds k = some r → k + r.length = cs.length → cs.drop k = r
  | [], [], k, r, _, h, hl => by
    simp only [flatParts, Option.some.injEq] at h
    subst h
    exact List.drop_eq_nil_of_le (by simp at hl; omega)
  | (off, t) :: ps, d :: ds, k, r, hg, h, hl => by
    simp only [flatParts] at h
    split at h <;> try (cases h; done)
    rename_i hoff
    split at h <;> try (cases h; done)
    rename_i c hc
    split at h <;> try (cases h; done)
    rename_i hcl
    simp only [Option.map_eq_some_iff] at h
    obtain ⟨r', hr', rfl⟩ := h
    subst hoff
    have h1 := hg 0 off t d rfl rfl c hc hcl
    simp only [List.length_append] at hl
    have h2 := flatParts_sound ps ds (off + sz t) r' (fun i o t' d' hi hd c' hc' => hg (i + 1) o t' d' (by simpa using hi) (by simpa using hd) c' hc') hr' (by omega)
    rw [← List.take_append_drop (sz t) (cs.drop off), h1, List.drop_drop, h2]
  | [], _ :: _, k, r, _, h, _ => by simp [flatParts] at h
  | _ :: _, [], k, r, _, h, _ => by simp [flatParts] at h

theorem flatD_sound {enc : TypeId × Value → Unit} {P : Program} {w : World} {base : Nat} {sp : Nat → Bool} {held : Bool} : ∀ (n fuel : Nat) (t : TypeId) (cs : List Value) (d : DataW Unit) (p : List MemPlace) (r : List Value),
    DataW.trod enc P w base sp held fuel t cs = some (d, p) → flatD P n t d = some r → r.length = P.cellsOf t → cs = r
  | 0, _, _, _, _, _, _, _, h, _ => by simp [flatD] at h
  | n + 1, fuel, t, cs, d, p, r, ht, h, hl => by
    simp only [flatD] at h
    split at h
    · rename_i b hu
      obtain ⟨b', rfl, hx⟩ := DataW.trod_bool hu ht
      cases hx; cases h; rfl
    · rename_i k k' z hu
      obtain ⟨z', rfl, hx, _⟩ := DataW.trod_int hu ht
      cases hx
      simp at h; exact h
    · rename_i l hu
      obtain ⟨s, rfl, hx, _⟩ := DataW.trod_string hu ht
      cases hx
      cases h
      simp
    · rename_i fs ds hu
      obtain ⟨xs, m, _, hx, hcl, hxl, hf⟩ := DataW.trod_struct hu ht
      simp only [Prod.mk.injEq, DataW.agg.injEq] at hx
      obtain ⟨rfl, _⟩ := hx
      have := flatParts_sound (cs := cs) _ _ 0 r ?_ h (by omega)
      · simpa using this
      · intro i off t' d' hi hd c hc hcs
        simp only [List.getElem?_map, Option.map_eq_some_iff, Prod.mk.injEq] at hi hd
        obtain ⟨f, hfi, rfl, rfl⟩ := hi
        obtain ⟨x, hxi, rfl⟩ := hd
        have h1 := hf i f (by simpa using hfi)
        rw [hxi] at h1
        exact flatD_sound n m f.type _ x.1 x.2 c h1 hc hcs
    · rename_i m e ds hu
      obtain ⟨xs, q, _, hx, hcl, hxl, hf⟩ := DataW.trod_array hu ht
      simp only [Prod.mk.injEq, DataW.agg.injEq] at hx
      obtain ⟨rfl, _⟩ := hx
      have := flatParts_sound (cs := cs) _ _ 0 r ?_ h (by omega)
      · simpa using this
      · intro i off t' d' hi hd c hc hcs
        simp only [List.getElem?_map, Option.map_eq_some_iff, Prod.mk.injEq] at hi hd
        obtain ⟨j, hj, rfl, rfl⟩ := hi
        obtain ⟨x, hxi, rfl⟩ := hd
        have hjm : i < m ∧ j = i := by
          have := List.getElem?_eq_some_iff.1 hj
          obtain ⟨h1, h2⟩ := this
          simp at h1 h2
          exact ⟨h1, h2.symm⟩
        have h1 := hf i hjm.1
        rw [hxi] at h1
        rw [hjm.2]
        exact flatD_sound n q e _ x.1 x.2 c h1 hc hcs
    · cases h
end Go.Eng

namespace Go.Eng
variable [Shift]
variable {p : Par} {e e' e'' : Env} {H H' : Heap} {w w' w'' : World} {Z : Tab}

/-- What is known of a state, or less. -/
structure Less (s1 s : St) : Prop where
  T : ∀ t v, s.T.get t = some v → s1.T.get t = some v
  h : ∀ b o, s.h.get b = some o → s1.h.get b = some o
  next : s.h.next = s1.h.next
  ghost : s.h.ghost = s1.h.ghost
  ds : s.ds = s1.ds

theorem Rel.less (h : Rel p e H w) (hl : ∀ b o, H'.get b = some o → H.get b = some o) (hn : H'.next = H.next) (hg : H'.ghost = H.ghost) : Rel p e H' w := by
  have hD : H'.D = H.D := by funext b; simp only [Heap.D, hn, hg]
  refine ⟨fun b o hb => h.obj b o (hl b o hb), fun b o hb => by rw [hD]; exact h.und b o (hl b o hb), fun b o hb => by rw [hD]; exact h.lt b o (hl b o hb), fun b b' o o' hb hb' => h.inj b b' o o' (hl b o hb) (hl b' o' hb'), h.glo,
    fun b o hb => h.own b o (hl b o hb), h.siz, by rw [hn]; exact h.nxt, h.gn, by rw [hn]; exact h.sml, by rw [hg, hn]; exact h.gst, h.fix, fun b hb => ⟨(h.sft b hb).1, (h.sft b hb).2.1, ?_⟩⟩
  cases hx : H'.get b with
  | none => rfl
  | some o =>
    have := hl b o hx
    rw [(h.sft b hb).2.2] at this
    cases this
theorem Step.less (h : Step p e H w e' H' w') {H2 : Heap} (hl : ∀ b o, H2.get b = some o → H'.get b = some o) (hn : H2.next = H'.next) (hg : H2.ghost = H'.ghost) : Step p e H w e' H2 w' where
  agree := h.agree
  le := by rw [hn]; exact h.le
  gho := hg.trans h.gho
  rel := h.rel.less hl hn hg
  size := h.size
  keep := h.keep
  own r hr := by
    obtain ⟨b, o, hb, hN, hx⟩ := hr
    exact h.own r ⟨b, o, hl b o hb, hN, hx⟩
  tape := h.tape
  os := h.os
  output := h.output
theorem SRel.less {nt : Nat} {s1 s : St} {a : Act} (h : SRel p e nt s1 a w) (hl : Less s1 s) : SRel p e nt s a w := by
  have hD : s.h.D = s1.h.D := by funext b; simp only [Heap.D, hl.next, hl.ghost]
  refine ⟨h.rel.less hl.h hl.next hl.ghost, ⟨h.tmps.1, fun t v hv => h.tmps.2 t v (hl.T t v hv)⟩, fun t v hv => by rw [hD]; exact h.tund t v (hl.T t v hv), by rw [hl.ds]; exact h.defs, fun d hd => by rw [hD]; rw [hl.ds] at hd; exact h.dund d hd⟩

/-- From a state to another one, by a piece of code. -/
def Tri (p : Par) (n nt : Nat) (c : Code) (s : St) (ex : Ex) (s' : St) : Prop :=
  ∀ (e : Env) (w : World) (a : Act), SRel p e nt s a w → c.wpIn (FR none) n p.P (Post p e s.h w nt ex s') a w

def exOk : Ex → Bool | .panic _ => false | _ => true

theorem Post.less {nt : Nat} {ex : Ex} {s1 s : St} {E : Exit} {a' : Act} (h : Post p e H w nt ex s1 E a' w') (hx : exOk ex = true) (hl : Less s1 s) : Post p e H w nt ex s E a' w' := by
  obtain ⟨e1, h1, h2, h3⟩ := h
  refine ⟨e1, h1.less hl.h hl.next hl.ghost, h2.less hl, ?_⟩
  cases ex with
  | panic v => cases hx
  | _ => exact h3

theorem tri_run (hZ : TOk Z p) {fuel k fid n nt : Nat} (hnt : nt ≤ 2 ^ 30) {c : Code} (hc : cOk p.G nt c = true) {s s1 s' : St} {ex : Ex} (h : run Z fuel (calls Z fuel k) ⟨fid, nt, false⟩ c s = some (ex, s1)) (hx : exOk ex = true) (hl : Less s1 s') :
    Tri p n nt c s ex s' := by
  intro e w a hS
  have hC := calls_ok (p := p) hZ (fuel := fuel) k
  refine wpIn_mono (run_sound (r := none) (x := ⟨fid, nt, false⟩) hZ hC (stepD_sound hZ hC) (rangeFunc_sound hZ hC) hnt rfl c s s1 ex e w a hS hc h) ?_
  intro E a1 w1 hp
  exact hp.less hx hl

theorem tri_seq {n nt : Nat} {c1 c2 : Code} {s s1 s2 : St} {ex : Ex} (h1 : Tri p n nt c1 s .normal s1) (h2 : Tri p n nt c2 s1 ex s2) : Tri p n nt (.seq c1 c2) s ex s2 := by
  intro e w a hS
  refine wpIn_seq (wpIn_mono (h1 e w a hS) ?_)
  intro E a1 w1 hp
  refine exThen hp ?_ (fun hne => absurd rfl hne)
  intro _ e1 hst hS1
  exact wpIn_mono (h2 e1 w1 a1 hS1) fun _ _ _ hq => hq.pre hst

theorem tri_block {n nt id : Nat} {c : Code} {s s1 : St} (h : Tri p n nt c s (.exit id) s1) : Tri p n nt (.block id c) s .normal s1 := by
  intro e w a hS
  refine wpIn_block (wpIn_mono (h e w a hS) ?_)
  rintro E a1 w1 ⟨e1, hst, hS1, hE⟩
  cases hE
  simp only [Exit.inBlock, if_true]
  exact ⟨e1, hst, hS1, rfl⟩
theorem tri_block_n {n nt id : Nat} {c : Code} {s s1 : St} (h : Tri p n nt c s .normal s1) : Tri p n nt (.block id c) s .normal s1 := by
  intro e w a hS
  refine wpIn_block (wpIn_mono (h e w a hS) ?_)
  rintro E a1 w1 ⟨e1, hst, hS1, hE⟩
  cases hE
  exact ⟨e1, hst, hS1, rfl⟩
theorem tri_block_ret {n nt id : Nat} {c : Code} {s s1 : St} (h : Tri p n nt c s .ret s1) : Tri p n nt (.block id c) s .ret s1 := by
  intro e w a hS
  refine wpIn_block (wpIn_mono (h e w a hS) ?_)
  rintro E a1 w1 ⟨e1, hst, hS1, hE⟩
  cases hE
  exact ⟨e1, hst, hS1, rfl⟩

/-- A loop, round by round. -/
def TriL (p : Par) (n nt : Nat) (c : Code) (s : St) (ex : Ex) (s' : St) : Prop :=
  ∃ m, ∀ (e : Env) (w : World) (a : Act), SRel p e nt s a w → Code.roundsIn (FR none) n p.P c (Post p e s.h w nt ex s') m a w
theorem triL_cons {n nt : Nat} {c : Code} {s s1 s2 : St} {ex : Ex} (h1 : Tri p n nt c s .normal s1) (h2 : TriL p n nt c s1 ex s2) : TriL p n nt c s ex s2 := by
  obtain ⟨m, hm⟩ := h2
  refine ⟨m + 1, fun e w a hS => ?_⟩
  simp only [Code.roundsIn]
  refine wpIn_mono (h1 e w a hS) ?_
  intro E a1 w1 hp
  refine exThen hp ?_ (fun hne => absurd rfl hne)
  intro _ e1 hst hS1
  exact roundsIn_mono (fun _ _ _ hq => hq.pre hst) _ _ _ (hm e1 w1 a1 hS1)
theorem triL_iter (hZ : TOk Z p) {fuel k fid n nt : Nat} (hnt : nt ≤ 2 ^ 30) {c : Code} (hc : cOk p.G nt c = true) {s s1 s' : St} {ex : Ex} (q : Nat) (h : iter (run Z fuel (calls Z fuel k) ⟨fid, nt, false⟩ c) q s = some (ex, s1)) (hx : exOk ex = true) (hl : Less s1 s') :
    TriL p n nt c s ex s' := by
  have hC := calls_ok (p := p) hZ (fuel := fuel) k
  refine ⟨q, fun e w a hS => roundsIn_mono (fun _ _ _ hp => hp.less hx hl) _ _ _ (iter_sound (fun s s' ex e w a hS h => run_sound (r := none) (x := ⟨fid, nt, false⟩) hZ hC (stepD_sound hZ hC) (rangeFunc_sound hZ hC) hnt rfl c s s' ex e w a hS hc h) q s s1 ex e w a hS h)⟩
theorem tri_loop {n nt : Nat} {c : Code} {s s1 : St} {ex : Ex} (h : TriL p n nt c s ex s1) : Tri p n nt (.loop c) s ex s1 := by
  obtain ⟨m, hm⟩ := h
  intro e w a hS
  exact wpIn_loop_rounds m (hm e w a hS)
end Go.Eng

namespace Go.Eng

structure LSt where
  T : List (Nat × Value)
  h : List (Nat × AObj)
  next : Nat

def setAll {α : Type} : List (Nat × α) → Tr α → Tr α
  | [], t => t
  | x :: l, t => setAll l (t.set x.1 (some x.2))
def LSt.st (l : LSt) : St := ⟨setAll l.T .e, ⟨setAll l.h .e, l.next, []⟩, []⟩

theorem setAll_get {α : Type} : ∀ (l : List (Nat × α)) (t : Tr α) (k : Nat) (v : α), (∀ x ∈ l, x.1 < 2 ^ 30) → (setAll l t).get k = some v → (k, v) ∈ l ∨ t.get k = some v
  | [], t, k, v, _, h => .inr h
  | x :: l, t, k, v, hl, h => by
    rcases setAll_get l _ k v (fun y hy => hl y (by simp [hy])) h with h1 | h1
    · exact .inl (by simp [h1])
    · have := hl x (by simp)
      rw [Tr.get_set _ _ _ _ (by omega)] at h1
      split at h1
      · rename_i hk; subst hk; cases h1; exact .inl (by simp)
      · exact .inr h1

def sameO : AObj → AObj → Bool
  | .cells c el fz g, .cells c' el' fz' g' => Nat.beq c.length c'.length && (c.zip c').all (fun p => sameV 8 p.1 p.2) && Nat.beq el el' && Nat.beq fz.1 fz'.1 && Nat.beq fz.2 fz'.2 && (g == g')
  | .map es c, .map es' c' => Nat.beq es.length es'.length && (es.zip es').all (fun p => sameV 8 p.1.key p.2.key && sameV 8 p.1.val p.2.val && Nat.beq p.1.born p.2.born) && Nat.beq c c'
  | _, _ => false
theorem sameO_eq {a b : AObj} (h : sameO a b = true) : a = b := by
  letI : Shift := ⟨fun _ => 0⟩
  cases a <;> cases b <;> simp only [sameO] at h <;> try (cases h; done)
  rotate_left
  · rename_i es c es' c'
    simp only [Bool.and_eq_true, List.all_eq_true] at h
    obtain ⟨⟨h1, h2⟩, h3⟩ := h
    have hes : es = es' := by
      apply List.ext_getElem (Nat.eq_of_beq_eq_true h1)
      intro i hi hi'
      have := h2 (es[i], es'[i]) (by rw [List.mem_iff_getElem]; exact ⟨i, by simp; omega, by simp⟩)
      obtain ⟨⟨k1, k2⟩, k3⟩ := this
      have e1 := sameV_eq 8 _ _ k1
      have e2 := sameV_eq 8 _ _ k2
      have e3 := Nat.eq_of_beq_eq_true k3
      cases hx : es[i]
      cases hy : es'[i]
      simp only [hx, hy] at e1 e2 e3
      rw [e1, e2, e3]
    rw [hes, Nat.eq_of_beq_eq_true h3]
  rename_i c el fz g c' el' fz' g'
  simp only [Bool.and_eq_true, List.all_eq_true, beq_iff_eq] at h
  obtain ⟨⟨⟨⟨⟨h1, h2⟩, h3⟩, h4⟩, h5⟩, h6⟩ := h
  have hl := Nat.eq_of_beq_eq_true h1
  have hc : c = c' := by
    apply List.ext_getElem hl
    intro i hi hi'
    exact sameV_eq 8 _ _ (h2 (c[i], c'[i]) (by rw [List.mem_iff_getElem]; exact ⟨i, by simp; omega, by simp⟩))
  obtain ⟨f1, f2⟩ := fz
  obtain ⟨f1', f2'⟩ := fz'
  rw [hc, Nat.eq_of_beq_eq_true h3, h6, show f1 = f1' from Nat.eq_of_beq_eq_true h4, show f2 = f2' from Nat.eq_of_beq_eq_true h5]

def lessB (s1 : St) (l : LSt) : Bool :=
  s1.ds.isEmpty && s1.h.ghost.isEmpty && Nat.beq s1.h.next l.next && l.T.all (fun x => Nat.blt x.1 1000000000 && (match s1.T.get x.1 with | some v => sameV 8 v x.2 | none => false)) &&
    l.h.all (fun x => Nat.blt x.1 1000000000 && (match s1.h.get x.1 with | some o => sameO o x.2 | none => false))
theorem less_of {s1 : St} {l : LSt} (h : lessB s1 l = true) : Less s1 l.st := by
  letI : Shift := ⟨fun _ => 0⟩
  simp only [lessB, Bool.and_eq_true, List.all_eq_true, List.isEmpty_iff, Nat.blt_eq] at h
  obtain ⟨⟨⟨⟨h1, h2⟩, h3⟩, h4⟩, h5⟩ := h
  refine ⟨fun t v hv => ?_, fun b o hb => ?_, (Nat.eq_of_beq_eq_true h3).symm, h2.symm, h1.symm⟩
  · rcases setAll_get l.T .e t v (fun x hx => by have := (h4 x hx).1; omega) hv with hx | hx
    · have := (h4 _ hx).2
      split at this
      · rename_i v' hv'; simp only at hv'; rw [hv', sameV_eq _ _ _ this]
      · cases this
    · simp [Tr.get_e] at hx
  · rcases setAll_get l.h .e b o (fun x hx => by have := (h5 x hx).1; omega) hb with hx | hx
    · have := (h5 _ hx).2
      split at this
      · rename_i o' ho'
        simp only at ho'
        show s1.h.get b = some o
        rw [ho', sameO_eq this]
      · cases this
    · simp [Tr.get_e] at hx

def sameEx : Ex → Ex → Bool
  | .normal, .normal => true
  | .exit i, .exit j => Nat.beq i j
  | .ret, .ret => true
  | _, _ => false
theorem sameEx_eq {a b : Ex} (h : sameEx a b = true) : a = b ∧ exOk b = true := by
  cases a <;> cases b <;> simp only [sameEx] at h <;> first | (cases h; done) | exact ⟨rfl, rfl⟩ | exact ⟨by rw [Nat.eq_of_beq_eq_true h], rfl⟩

/-- A piece: a run from one state to the next one. -/
def pieceB (Z : Tab) (G : Nat) (fuel k nt : Nat) (c : Code) (s : St) (ex : Ex) (l : LSt) : Bool :=
  cOk G nt c && (match run Z fuel (calls Z fuel k) ⟨0, nt, false⟩ c s with | some (ex1, s1) => sameEx ex1 ex && lessB s1 l | none => false)
def iterN (f : St → Option (Ex × St)) : Nat → St → Option St
  | 0, s => some s
  | n + 1, s => match f s with | some (.normal, s') => iterN f n s' | _ => none
/-- So many rounds of a loop. -/
def roundsB (Z : Tab) (G : Nat) (fuel k nt : Nat) (q : Nat) (c : Code) (s : St) (l : LSt) : Bool :=
  cOk G nt c && (match iterN (run Z fuel (calls Z fuel k) ⟨0, nt, false⟩ c) q s with | some s1 => lessB s1 l | none => false)
/-- The rest of a loop. -/
def restB (Z : Tab) (G : Nat) (fuel k nt : Nat) (q : Nat) (c : Code) (s : St) (ex : Ex) (l : LSt) : Bool :=
  cOk G nt c && (match iter (run Z fuel (calls Z fuel k) ⟨0, nt, false⟩ c) q s with | some (ex1, s1) => sameEx ex1 ex && lessB s1 l | none => false)

section
variable [Shift] {p : Par} {Z : Tab} {G : Nat} {fuel k n nt : Nat} {c : Code} {s : St} {l : LSt} {ex : Ex}
theorem tri_piece (hZ : TOk Z p) (hG : p.G = G) (hnt : nt ≤ 2 ^ 30) (h : pieceB Z G fuel k nt c s ex l = true) : Tri p n nt c s ex l.st := by
  simp only [pieceB, Bool.and_eq_true] at h
  obtain ⟨hc, h⟩ := h
  split at h
  · rename_i ex1 s1 hrun
    simp only [Bool.and_eq_true] at h
    obtain ⟨rfl, hx⟩ := sameEx_eq h.1
    exact tri_run hZ hnt (by rw [hG]; exact hc) hrun hx (less_of h.2)
  · cases h
theorem triL_rest (hZ : TOk Z p) (hG : p.G = G) (hnt : nt ≤ 2 ^ 30) {q : Nat} (h : restB Z G fuel k nt q c s ex l = true) : TriL p n nt c s ex l.st := by
  simp only [restB, Bool.and_eq_true] at h
  obtain ⟨hc, h⟩ := h
  split at h
  · rename_i ex1 s1 hrun
    simp only [Bool.and_eq_true] at h
    obtain ⟨rfl, hx⟩ := sameEx_eq h.1
    exact triL_iter hZ hnt (by rw [hG]; exact hc) q hrun hx (less_of h.2)
  · cases h
theorem triL_iterN (hZ : TOk Z p) (hG : p.G = G) (hnt : nt ≤ 2 ^ 30) (hc : cOk G nt c = true) {s3 : St} : ∀ (q : Nat) (s s1 : St), iterN (run Z fuel (calls Z fuel k) ⟨0, nt, false⟩ c) q s = some s1 → ∀ s2, Less s1 s2 → TriL p n nt c s2 ex s3 → TriL p n nt c s ex s3
  | 0, s, s1, h, s2, hl, h2 => by
    simp only [iterN, Option.some.injEq] at h
    subst h
    obtain ⟨m, hm⟩ := h2
    refine ⟨m, fun e w a hS => ?_⟩
    have := hm e w a (hS.less hl)
    refine roundsIn_mono ?_ _ _ _ this
    rintro E a1 w1 ⟨e1, h1, h2, h3⟩
    refine ⟨e1, ?_, h2, h3⟩
    have hd : s2.h.D = s.h.D := by funext b; simp only [Heap.D, hl.next, hl.ghost]
    refine ⟨by have := h1.agree; rwa [hd] at this, by rw [← hl.next]; exact h1.le, by rw [← hl.ghost]; exact h1.gho, h1.rel, h1.size, fun r hr hno => h1.keep r hr fun ho => hno ?_, fun r hr => ?_, h1.tape, h1.os, h1.output⟩
    · obtain ⟨b, o, hb, hN, hx⟩ := ho
      exact ⟨b, o, hl.h b o hb, hN, hx⟩
    · rcases h1.own r hr with ho | ho
      · obtain ⟨b, o, hb, hN, hx⟩ := ho
        exact .inl ⟨b, o, hl.h b o hb, hN, hx⟩
      · exact .inr ho
  | q + 1, s, s1, h, s2, hl, h2 => by
    simp only [iterN] at h
    split at h <;> try (cases h; done)
    rename_i s' hrun
    have ih := triL_iterN hZ hG hnt hc q s' s1 h s2 hl h2
    exact triL_cons (tri_run hZ hnt (by rw [hG]; exact hc) hrun rfl ⟨fun _ _ h => h, fun _ _ h => h, rfl, rfl, rfl⟩) ih
theorem triL_rounds (hZ : TOk Z p) (hG : p.G = G) (hnt : nt ≤ 2 ^ 30) {q : Nat} (h : roundsB Z G fuel k nt q c s l = true) {s3 : St} (h2 : TriL p n nt c l.st ex s3) : TriL p n nt c s ex s3 := by
  simp only [roundsB, Bool.and_eq_true] at h
  obtain ⟨hc, h⟩ := h
  split at h
  · rename_i s1 hrun
    exact triL_iterN hZ hG hnt hc q s s1 hrun _ (less_of h) h2
  · cases h
end

/-- A closed function, out of its pieces. -/
theorem closed_tri [Shift] {p : Par} {Z : Tab} (hZ : TOk Z p) {f : FuncId} {fn : Func} {c : Code} {H : Heap} {l : LSt} {e : Env} {w : World} (hfn : Z.fn f = some fn) (hb : fn.body = some c) (h : Tri p 0 fn.ntmps c ⟨.e, H, []⟩ .ret l.st)
    (hres : resultsOf Z l.st.h l.st.T fn.results.toList = some (.bool true)) (hR : Rel p e H w) (hB : p.B = w.heap.size) :
    Calls p.P f #[] w fun en w' => en = .returned (.bool true) ∧ Go.RowKit.Below w.heap.size w w' := by
  obtain ⟨hP, ⟨c', hc', hcok, hnt⟩, _⟩ := hZ.fn f fn hfn
  have hS : SRel p e fn.ntmps ⟨.e, H, []⟩ { tmps := #[] ++ Array.replicate (fn.ntmps - (#[] : Array Value).size) undef, defers := [] } w :=
    SRel.enter (args := []) hR (by simp) (nt := fn.ntmps) (by simp) hnt
  refine callsIn_wide.1 (callsIn_of_wp_marks (F := FR none) hP hb trivial (wpIn_mono (h e w _ hS) ?_))
  rintro E a1 w1 ⟨e1, hst, hS1, hE⟩
  cases hE
  show LeavesInM (FR none) 0 p.P fn a1.tmps _ a1.defers .returning w1
  rw [hS1.defs]
  exact ⟨_, (results_sound hZ hS1.rel hS1.tmps hS1.tund hres).1, by simp, hst.below hB hR⟩
end Go.Eng

namespace Go.Eng

def takeC : Nat → Code → Code
  | 0, _ => .skip
  | n + 1, .seq a b => .seq a (takeC n b)
  | _ + 1, _ => .goto 0
def dropC : Nat → Code → Code
  | 0, c => c
  | n + 1, .seq _ b => dropC n b
  | _ + 1, c => c
def sq1 : Code → Code | .seq a _ => a | c => c
def sq2 : Code → Code | .seq _ b => b | c => c
def bdy : Code → Code | .block _ c => c | .loop c => c | c => c

section
variable [Shift] {p : Par} {Z : Tab} {G : Nat} {fuel k n nt : Nat} {c : Code} {s : St} {l : LSt} {ex : Ex}
theorem Post.more {s s2 : St} {s3 : St} {e : Env} {w w1 : World} {E : Exit} {a1 : Act} (hl : Less s s2) (h : Post p e s2.h w nt ex s3 E a1 w1) : Post p e s.h w nt ex s3 E a1 w1 := by
  obtain ⟨e1, h1, h2, h3⟩ := h
  refine ⟨e1, ?_, h2, h3⟩
  have hd : s2.h.D = s.h.D := by funext b; simp only [Heap.D, hl.next, hl.ghost]
  refine ⟨by have := h1.agree; rwa [hd] at this, by rw [← hl.next]; exact h1.le, by rw [← hl.ghost]; exact h1.gho, h1.rel, h1.size, fun r hr hno => h1.keep r hr fun ho => hno ?_, fun r hr => ?_, h1.tape, h1.os, h1.output⟩
  · obtain ⟨b, o, hb, hN, hx⟩ := ho
    exact ⟨b, o, hl.h b o hb, hN, hx⟩
  · rcases h1.own r hr with ho | ho
    · obtain ⟨b, o, hb, hN, hx⟩ := ho
      exact .inl ⟨b, o, hl.h b o hb, hN, hx⟩
    · exact .inr ho
theorem tri_less {s s2 s3 : St} (hl : Less s s2) (h : Tri p n nt c s2 ex s3) : Tri p n nt c s ex s3 := fun e w a hS => wpIn_mono (h e w a (hS.less hl)) fun _ _ _ hp => hp.more hl

theorem tri_takeRun (hZ : TOk Z p) (hG : p.G = G) (hnt : nt ≤ 2 ^ 30) {s3 : St} : ∀ (m : Nat) (c : Code) (s s1 : St), cOk G nt (takeC m c) = true → run Z fuel (calls Z fuel k) ⟨0, nt, false⟩ (takeC m c) s = some (.normal, s1) →
    ∀ s2, Less s1 s2 → Tri p n nt (dropC m c) s2 ex s3 → Tri p n nt c s ex s3
  | 0, c, s, s1, _, h, s2, hl, h2 => by
    simp only [takeC, run, Option.some.injEq, Prod.mk.injEq, true_and] at h
    subst h
    exact tri_less hl h2
  | m + 1, .seq a b, s, s1, hc, h, s2, hl, h2 => by
    simp only [takeC, cOk, Bool.and_eq_true] at hc
    simp only [takeC, run] at h
    cases h1 : run Z fuel (calls Z fuel k) ⟨0, nt, false⟩ a s with
    | none => rw [h1] at h; cases h
    | some res =>
      obtain ⟨ex1, s'⟩ := res
      rw [h1] at h
      cases ex1 with
      | normal => exact tri_seq (tri_run hZ hnt (by rw [hG]; exact hc.1) h1 rfl ⟨fun _ _ h => h, fun _ _ h => h, rfl, rfl, rfl⟩) (tri_takeRun hZ hG hnt m b s' s1 hc.2 h s2 hl h2)
      | exit i => cases h
      | ret => cases h
      | panic v => cases h
  | m + 1, .skip, s, s1, _, h, _, _, _ => by simp [takeC, run] at h
  | m + 1, .region _ _ _, s, s1, _, h, _, _, _ => by simp [takeC, run] at h
  | m + 1, .cond _ _ _, s, s1, _, h, _, _, _ => by simp [takeC, run] at h
  | m + 1, .block _ _, s, s1, _, h, _, _, _ => by simp [takeC, run] at h
  | m + 1, .loop _, s, s1, _, h, _, _, _ => by simp [takeC, run] at h
  | m + 1, .rangeFunc _ _ _ _, s, s1, _, h, _, _, _ => by simp [takeC, run] at h
  | m + 1, .exit _, s, s1, _, h, _, _, _ => by simp [takeC, run] at h
  | m + 1, .scope _, s, s1, _, h, _, _, _ => by simp [takeC, run] at h
  | m + 1, .label _, s, s1, _, h, _, _, _ => by simp [takeC, run] at h
  | m + 1, .goto _, s, s1, _, h, _, _, _ => by simp [takeC, run] at h
  | m + 1, .ret, s, s1, _, h, _, _, _ => by simp [takeC, run] at h
  | m + 1, .refuse _, s, s1, _, h, _, _, _ => by simp [takeC, run] at h
theorem tri_take (hZ : TOk Z p) (hG : p.G = G) (hnt : nt ≤ 2 ^ 30) (m : Nat) (h : pieceB Z G fuel k nt (takeC m c) s .normal l = true) {s3 : St} (h2 : Tri p n nt (dropC m c) l.st ex s3) : Tri p n nt c s ex s3 := by
  simp only [pieceB, Bool.and_eq_true] at h
  obtain ⟨hc, h⟩ := h
  split at h
  · rename_i ex1 s1 hrun
    simp only [Bool.and_eq_true] at h
    obtain ⟨rfl, hx⟩ := sameEx_eq h.1
    exact tri_takeRun hZ hG hnt m c s s1 hc hrun _ (less_of h.2) h2
  · cases h
end
end Go.Eng

namespace Go.Eng

def isSeq : Code → Bool | .seq _ _ => true | _ => false
def blkId : Code → Option Nat | .block id _ => some id | _ => none
def isLoop : Code → Bool | .loop _ => true | _ => false
def thn : Code → Code | .cond _ a _ => a | c => c
def els : Code → Code | .cond _ _ b => b | c => c
def scp : Code → Code | .scope c => c | c => c
def isScope : Code → Bool | .scope _ => true | _ => false
def condB (G : Nat) (d : Code) (s : St) : Option Bool :=
  match d with
  | .cond c _ _ => cond (operandOk G c) (match ev s.T c with | .bool t => some t | _ => none) none
  | _ => none
def exStop : Ex → Bool | .normal => false | .panic _ => false | _ => true
def blkEx (id : Nat) : Ex → Ex
  | .exit i => cond (Nat.beq i id) .normal (.exit i)
  | x => x

section
variable [Shift] {p : Par} {Z : Tab} {G : Nat} {n nt : Nat} {d : Code} {s s1 s2 : St} {ex : Ex}
theorem tri_item (h : isSeq d = true) (h1 : Tri p n nt (sq1 d) s .normal s1) (h2 : Tri p n nt (sq2 d) s1 ex s2) : Tri p n nt d s ex s2 := by
  cases d <;> first | (cases h; done) | exact tri_seq h1 h2
theorem tri_itemX (h : isSeq d = true) (hx : exStop ex = true) (h1 : Tri p n nt (sq1 d) s ex s1) : Tri p n nt d s ex s1 := by
  cases d <;> first | (cases h; done) | skip
  intro e w a hS
  refine wpIn_seq (wpIn_mono (h1 e w a hS) ?_)
  intro E a1 w1 hp
  obtain ⟨e1, hst, hS1, hE⟩ := hp
  cases ex with
  | normal => cases hx
  | panic v => cases hx
  | exit i => cases hE; exact ⟨e1, hst, hS1, rfl⟩
  | ret => cases hE; exact ⟨e1, hst, hS1, rfl⟩
theorem tri_blk {id : Nat} (h : blkId d = some id) (hx : exOk ex = true) (h1 : Tri p n nt (bdy d) s ex s1) : Tri p n nt d s (blkEx id ex) s1 := by
  cases d <;> first | (cases h; done) | skip
  simp only [blkId, Option.some.injEq] at h
  subst h
  cases ex with
  | normal => exact tri_block_n h1
  | ret => exact tri_block_ret h1
  | panic v => cases hx
  | exit i =>
    simp only [blkEx]
    cases hb : Nat.beq i _ with
    | true =>
      have := Nat.eq_of_beq_eq_true hb
      subst this
      exact tri_block h1
    | false =>
      intro e w a hS
      refine wpIn_block (wpIn_mono (h1 e w a hS) ?_)
      rintro E a1 w1 ⟨e1, hst, hS1, hE⟩
      cases hE
      have hne : i ≠ _ := fun hx => by rw [hx, Nat.beq_refl] at hb; cases hb
      simp only [Exit.inBlock, if_neg hne]
      exact ⟨e1, hst, hS1, rfl⟩
theorem tri_lp (h : isLoop d = true) (h1 : TriL p n nt (bdy d) s ex s1) : Tri p n nt d s ex s1 := by
  cases d <;> first | (cases h; done) | exact tri_loop h1
theorem tri_scp (h : isScope d = true) (h1 : Tri p n nt (scp d) s ex s1) : Tri p n nt d s ex s1 := by
  cases d <;> first | (cases h; done) | skip
  intro e w a hS
  refine wpIn_scope (wpIn_mono (h1 e w a hS) ?_)
  rintro E a1 w1 ⟨e1, hst, hS1, hE⟩
  cases ex with
  | normal => cases hE; exact ⟨e1, hst, hS1, rfl⟩
  | exit i => cases hE; exact ⟨e1, hst, hS1, rfl⟩
  | ret => cases hE; exact ⟨e1, hst, hS1, rfl⟩
  | panic v => obtain ⟨rfl, hu⟩ := hE; exact ⟨e1, hst, hS1, rfl, hu⟩
theorem cnd_eval {e : Env} {w : World} {a : Act} (hG : p.G = G) (hS : SRel p e nt s a w) {c : Operand} {x y : Code} {t : Bool} (h : condB G (.cond c x y) s = some t) : a.eval c = .bool t := by
  simp only [condB] at h
  cases ho : operandOk G c with
  | false => rw [ho] at h; cases h
  | true =>
    rw [ho] at h
    simp only [cond] at h
    split at h <;> try (cases h; done)
    rename_i b hb
    cases h
    have := hS.erel c (by rw [hG]; exact ho) (by rw [hb]; rfl)
    rw [this.1, hb]
    simp
theorem tri_thn (hG : p.G = G) (h : condB G d s = some true) (h1 : Tri p n nt (thn d) s ex s1) : Tri p n nt d s ex s1 := by
  cases d <;> first | (cases h; done) | skip
  intro e w a hS
  exact wpIn_cond_true (cnd_eval hG hS h) (h1 e w a hS)
theorem tri_els (hG : p.G = G) (h : condB G d s = some false) (h1 : Tri p n nt (els d) s ex s1) : Tri p n nt d s ex s1 := by
  cases d <;> first | (cases h; done) | skip
  intro e w a hS
  exact wpIn_cond_false (cnd_eval hG hS h) (h1 e w a hS)
theorem triL_one (hx : exStop ex = true) (h : Tri p n nt d s ex s1) : TriL p n nt d s ex s1 := by
  refine ⟨1, fun e w a hS => ?_⟩
  simp only [Code.roundsIn]
  refine wpIn_mono (h e w a hS) ?_
  rintro E a1 w1 ⟨e1, hst, hS1, hE⟩
  cases ex with
  | normal => cases hx
  | panic v => cases hx
  | exit i => cases hE; exact ⟨e1, hst, hS1, rfl⟩
  | ret => cases hE; exact ⟨e1, hst, hS1, rfl⟩
end
end Go.Eng

namespace Go.Eng
/-- The calls, of which one function's, without arguments, is known wherever memory has these blocks and this next number. -/
def knownC (C : Calls3) (f : FuncId) (lh : List (Nat × AObj)) (next : Nat) (v : Value) (h' : Heap) : Calls3 :=
  { C with fn := fun g args h => cond (Nat.beq g f && args.isEmpty && lessB ⟨.e, h, []⟩ ⟨[], lh, next⟩) (some (.ret v, h')) (C.fn g args h) }
def pieceC (Z : Tab) (G : Nat) (fuel : Nat) (C : Calls3) (nt : Nat) (c : Code) (s : St) (ex : Ex) (l : LSt) : Bool :=
  cOk G nt c && (match run Z fuel C ⟨0, nt, false⟩ c s with | some (ex1, s1) => sameEx ex1 ex && lessB s1 l | none => false)
section
variable [Shift] {p : Par} {Z : Tab} {G : Nat} {fuel k n nt : Nat} {c : Code} {s : St} {l : LSt} {ex : Ex}
theorem tri_pieceC (hZ : TOk Z p) (hG : p.G = G) {C : Calls3} (hC : COk p C) (hnt : nt ≤ 2 ^ 30) (h : pieceC Z G fuel C nt c s ex l = true) : Tri p n nt c s ex l.st := by
  simp only [pieceC, Bool.and_eq_true] at h
  obtain ⟨hc, h⟩ := h
  split at h
  · rename_i ex1 s1 hrun
    simp only [Bool.and_eq_true] at h
    obtain ⟨rfl, hx⟩ := sameEx_eq h.1
    intro e w a hS
    refine wpIn_mono (run_sound (r := none) (x := ⟨0, nt, false⟩) hZ hC (stepD_sound hZ hC) (rangeFunc_sound hZ hC) hnt rfl c s s1 ex1 e w a hS (by rw [hG]; exact hc) hrun) ?_
    intro E a1 w1 hp
    exact hp.less hx (less_of h.2)
  · cases h
theorem knownC_ok (hZ : TOk Z p) {C : Calls3} (hC : COk p C) {f : FuncId} {fn : Func} {lh : List (Nat × AObj)} {next : Nat} {v : Value} (hfn : Z.fn f = some fn) (hb : fn.body = some c)
    (ht : ∀ n, Tri p n fn.ntmps c (LSt.st ⟨[], lh, next⟩) .ret l.st) (hres : resultsOf Z l.st.h l.st.T fn.results.toList = some v) : COk p (knownC C f lh next v l.st.h) where
  fn g args h r h' hf e w n hR hu := by
    simp only [knownC] at hf
    cases hc : (Nat.beq g f && args.isEmpty && lessB ⟨.e, h, []⟩ ⟨[], lh, next⟩) with
    | false => rw [hc] at hf; exact hC.fn g args h r h' hf e w n hR hu
    | true =>
      rw [hc] at hf
      simp only [cond] at hf
      cases hf
      simp only [Bool.and_eq_true, List.isEmpty_iff] at hc
      obtain ⟨⟨hg, rfl⟩, hl⟩ := hc
      obtain rfl : g = f := Nat.eq_of_beq_eq_true hg
      have hL := less_of hl
      have hR' : Rel p e (LSt.st ⟨[], lh, next⟩).h w := hR.less hL.h hL.next hL.ghost
      obtain ⟨hP, ⟨c', hc', hcok, hnt⟩, _⟩ := hZ.fn g fn hfn
      have hS : SRel p e fn.ntmps (LSt.st ⟨[], lh, next⟩) { tmps := #[] ++ Array.replicate (fn.ntmps - (#[] : Array Value).size) undef, defers := [] } w :=
        SRel.enter (args := []) hR' (by simp) (nt := fn.ntmps) (by simp) hnt
      refine callsIn_of_wp_marks (F := FR none) hP hb trivial (wpIn_mono (ht _ e w _ hS) ?_)
      intro E a1 w1 hp
      obtain ⟨e1, hst, hS1, hE⟩ := hp.more hL
      cases hE
      show LeavesInM (FR none) _ p.P fn a1.tmps _ a1.defers .returning w1
      rw [hS1.defs]
      have hrs := results_sound hZ hS1.rel hS1.tmps hS1.tund hres
      exact ⟨_, hrs.1, e1, hst, rfl, hrs.2⟩
  rd := hC.rd
  df := hC.df
end
end Go.Eng
end
