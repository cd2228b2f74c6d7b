/- A region that draws its order: what is checked of it. -/
import Derived.Test.YtooppedofcpfeaaGreatDoorEngR
set_option linter.all false
namespace Go.Eng
variable [Shift]
variable {p : Par} {e e' e'' : Env} {H H' : Heap} {w w' w'' : World} {Z : Tab}

/-! ### More of memory -/
theorem Rel.congr (h : Rel p e H w) (ha : Agree H.D e e') : Rel p e' H w := by
  refine ⟨fun b o hb => ?_, h.und, h.lt, fun b b' o o' hb hb' heq => ?_, fun g hg => ?_, fun b o hb hn => ?_, h.siz, h.nxt, h.gn, h.sml, h.gst, fun b hb => ?_, h.sft⟩
  · obtain ⟨r, hr, ho⟩ := h.obj b o hb
    exact ⟨r, by rw [← (ha b (h.lt b o hb)).1]; exact hr, ho.agree (h.und b o hb) (h.lt b o hb) ha⟩
  · rw [← (ha b (h.lt b o hb)).1, ← (ha b' (h.lt b' o' hb')).1] at heq
    exact h.inj b b' o o' hb hb' heq
  · rw [← (ha g (h.gloD hg)).1, ← (ha g (h.gloD hg)).2]; exact h.glo g hg
  · rw [← (ha b (h.lt b o hb)).1]; exact h.own b o hb hn
  · rw [← (ha b (h.lowD hb)).1]; exact h.fix b hb
theorem Own.congr (h : Rel p e H w) (ha : Agree H.D e e') {r : Nat} (hr : Own p e' H r) : Own p e H r := by
  obtain ⟨b, o, hb, hn, rfl⟩ := hr
  exact ⟨b, o, hb, hn, (ha b (h.lt b o hb)).1⟩
theorem Step.congr (h : Step p e H w e' H' w') (ha : Agree H'.D e' e'') : Step p e H w e'' H' w' where
  agree := h.agree.trans ha h.sub
  le := h.le
  gho := h.gho
  rel := h.rel.congr ha
  size := h.size
  keep := h.keep
  own r hr := h.own r (Own.congr h.rel ha hr)
  tape := h.tape
  os := h.os
  output := h.output
/-- The world has grown, but for what is followed. -/
theorem Rel.ext (h : Rel p e H w) (hk : ∀ r, r < w.heap.size → w'.heap[r]? = w.heap[r]?) (hs : w.heap.size ≤ w'.heap.size) : Rel p e H w' := by
  refine ⟨fun b o hb => ?_, h.und, h.lt, h.inj, h.glo, h.own, Nat.le_trans h.siz hs, h.nxt, h.gn, h.sml, h.gst, h.fix, h.sft⟩
  obtain ⟨r, hr, ho⟩ := h.obj b o hb
  exact ⟨r, by rw [hk _ (Array.getElem?_eq_some_iff.1 hr).1]; exact hr, ho⟩
theorem Step.ext (h : Step p e H w e' H' w') (hk : ∀ r, r < w'.heap.size → w''.heap[r]? = w'.heap[r]?) (hs : w'.heap.size ≤ w''.heap.size) (ht : w''.tape = w'.tape) (ho : w''.os = w'.os) (hu : w''.output = w'.output) :
    Step p e H w e' H' w'' where
  agree := h.agree
  le := h.le
  gho := h.gho
  rel := h.rel.ext hk hs
  size := Nat.le_trans h.size hs
  keep r hr hn := by rw [hk r (Nat.lt_of_lt_of_le hr h.size)]; exact h.keep r hr hn
  own := h.own
  tape := ht.trans h.tape
  os := ho.trans h.os
  output := hu.trans h.output
/-- A row that nothing has followed is followed from now on. -/
theorem Step.promote (hB : p.B ≤ w.heap.size) (h : Step p e H w e' H' w') {o : AObj} {r : Obj} (hr : w'.heap[e'.ρ H'.next]? = some r) (ho : ORel p e' H'.next o r) (hu : OUnd p (H'.new o).D o)
    (hf : w.heap.size ≤ e'.ρ H'.next) (hno : ¬ Own p e' H' (e'.ρ H'.next)) (hs : H'.next + 2 < 2 ^ 40) : Step p e H w e' (H'.new o) w' := by
  have hg : ∀ b o', (H'.new o).get b = some o' → (b = H'.next ∧ o' = o) ∨ (b ≠ H'.next ∧ H'.get b = some o') := by
    intro b o' hb
    rw [Heap.get_new _ _ _ (by omega)] at hb
    split at hb
    · rename_i hbn; exact .inl ⟨hbn, (Option.some.inj hb).symm⟩
    · rename_i hbn; exact .inr ⟨hbn, hb⟩
  have hmono : ∀ b, H'.D b → (H'.new o).D b := Heap.D_mono (by simp) rfl
  have hR := h.rel
  have hne : ∀ b o', H'.get b = some o' → e'.ρ b ≠ e'.ρ H'.next := by
    intro b o' hb heq
    by_cases hn : p.N0 ≤ b
    · exact hno ⟨b, o', hb, hn, heq⟩
    · have := hR.fix b (by omega); omega
  have hown : ∀ r, Own p e' (H'.new o) r → Own p e' H' r ∨ r = e'.ρ H'.next := by
    rintro r ⟨b, o', hb, hn, rfl⟩
    rcases hg b o' hb with ⟨rfl, _⟩ | ⟨_, hb⟩
    · exact .inr rfl
    · exact .inl ⟨b, o', hb, hn, rfl⟩
  refine ⟨h.agree, by have := h.le; simp; omega, h.gho, ⟨?_, ?_, ?_, ?_, hR.glo, ?_, hR.siz, by have := hR.nxt; simp; omega, hR.gn, by simp; omega, fun b hb => ⟨(hR.gst b hb).1, Nat.lt_succ_of_lt (hR.gst b hb).2⟩, hR.fix, fun b hb => ?_⟩, h.size, h.keep, ?_, h.tape, h.os, h.output⟩
  · intro b o' hb
    rcases hg b o' hb with ⟨rfl, rfl⟩ | ⟨hn, hb⟩
    · exact ⟨r, hr, ho⟩
    · exact hR.obj b o' hb
  · intro b o' hb
    rcases hg b o' hb with ⟨rfl, rfl⟩ | ⟨hn, hb⟩
    · exact hu
    · exact (hR.und b o' hb).mono hmono
  · intro b o' hb
    rcases hg b o' hb with ⟨rfl, _⟩ | ⟨_, hb⟩
    · exact hR.newD
    · exact hmono _ (hR.lt b o' hb)
  · intro b b' o1 o2 hb hb' heq
    rcases hg b o1 hb with ⟨rfl, rfl⟩ | ⟨hn, hb1⟩ <;> rcases hg b' o2 hb' with ⟨rfl, rfl⟩ | ⟨hn', hb2⟩
    · rfl
    · exact absurd heq.symm (hne b' o2 hb2)
    · exact absurd heq (hne b o1 hb1)
    · exact hR.inj b b' o1 o2 hb1 hb2 heq
  · intro b o' hb hn
    rcases hg b o' hb with ⟨rfl, _⟩ | ⟨_, hb⟩
    · omega
    · exact hR.own b o' hb hn
  · obtain ⟨h1, h2, h3⟩ := hR.sft b hb
    have := hR.nxt
    exact ⟨h1, h2, by rw [Heap.get_new _ _ _ (by omega), if_neg (by omega)]; exact h3⟩
  · intro r hr
    rcases hown r hr with h1 | rfl
    · exact h.own r h1
    · exact .inr hf

/-! ### What a followed region is -/
def OutFact (C : Calls3) (o : Oper) (T : Tr Value) (h : Heap) (T' : Tr Value) (h' : Heap) : Out → Prop
  | .val v d => T' = putA T o.dst v ∧ h' = h.app d
  | .enter f args => ∃ v, C.fn f args h = some (.ret v, h') ∧ T' = putA T o.dst v
  | .round l args => ∃ v, C.rd l args h = some (v, h') ∧ T' = putA T o.dst v
  | _ => False
def OpFact (Z : Tab) (C : Calls3) (o : Oper) (b : Bool) (T : Tr Value) (h : Heap) (T' : Tr Value) (h' : Heap) : Prop :=
  (b = false → T' = putA T o.dst undef ∧ h' = h) ∧ (b = true → ∃ out, doOp Z (ev T) h o = some out ∧ OutFact C o T h T' h' out)

theorem step1_fact {C : Calls3} {rd : Bool} {ops : Array Oper} {o : Oper} {s s' : St} {b : Bool} (hb : wantedA o ops s.T = some b) (h : step1 Z C rd ops o s = some (.normal, s')) (hds : s'.ds.length = s.ds.length) :
    OpFact Z C o b s.T s.h s'.T s'.h ∧ s'.ds = s.ds := by
  simp only [step1, Option.bind_eq_bind] at h
  split at h
  · cases h
  rw [hb] at h
  simp only [Option.bind_some] at h
  cases b with
  | false =>
    simp only [Bool.false_eq_true, if_false, putK_eq] at h
    cases h
    exact ⟨⟨fun _ => ⟨rfl, rfl⟩, fun hx => by cases hx⟩, rfl⟩
  | true =>
    simp only [if_true, Option.bind_eq_some_iff] at h
    obtain ⟨out, hout, h⟩ := h
    have key : OutFact C o s.T s.h s'.T s'.h out ∧ s'.ds = s.ds := by
      cases out with
      | val v d => simp only [putK_eq, Heap.appK_eq] at h; cases h; exact ⟨⟨rfl, rfl⟩, rfl⟩
      | enter f args =>
        simp only [Option.bind_eq_some_iff] at h
        obtain ⟨⟨res, h1⟩, hc, h⟩ := h
        cases res with
        | ret v => simp only [putK_eq] at h; cases h; exact ⟨⟨v, hc, rfl⟩, rfl⟩
        | pan v => cases h
      | round l args =>
        simp only [Option.bind_eq_some_iff] at h
        obtain ⟨⟨v, h1⟩, hc, h⟩ := h
        simp only [putK_eq] at h
        cases h
        exact ⟨⟨v, hc, rfl⟩, rfl⟩
      | defer d =>
        simp only at h
        split at h
        · cases h
        · simp only [putK_eq] at h
          cases h
          simp at hds
      | recover => cases h
      | panic v => cases h
    exact ⟨⟨(fun hx => by cases hx), fun _ => ⟨out, hout, key.1⟩⟩, key.2⟩

def Ti (rs : List DRec) (sf : St) (i : Nat) : Tr Value := match rs[i]? with | some r => r.T | none => sf.T
def Hi (rs : List DRec) (sf : St) (i : Nat) : Heap := match rs[i]? with | some r => r.h | none => sf.h
def Ki (rs : List DRec) (i : Nat) : Nat := match rs[i]? with | some r => r.kind | none => 4

theorem fwd_spec {C : Calls3} {rd : Bool} {ops : Array Oper} : ∀ (l : List Oper) (s sf : St) (rs : List DRec), fwd Z C rd ops l s = some (rs, sf) →
    rs.length = l.length ∧ Ti rs sf 0 = s.T ∧ Hi rs sf 0 = s.h ∧ sf.ds = s.ds ∧
    ∀ i o, l[i]? = some o → (∃ b, wantedA o ops (Ti rs sf i) = some b ∧ Ki rs i = cond b (kindOf o.op) 4 ∧ OpFact Z C o b (Ti rs sf i) (Hi rs sf i) (Ti rs sf (i + 1)) (Hi rs sf (i + 1))) ∧
      (Hi rs sf i).next ≤ (Hi rs sf (i + 1)).next ∧ (Hi rs sf (i + 1)).next < 1000000000 ∧ (Hi rs sf (i + 1)).ghost = []
  | [], s, sf, rs, h => by
    simp only [fwd] at h
    cases h
    exact ⟨rfl, rfl, rfl, rfl, fun i o hi => by simp at hi⟩
  | o :: os, s, sf, rs, h => by
    simp only [fwd] at h
    split at h
    · cases h
    rename_i b hb
    split at h <;> try (cases h; done)
    rename_i s1 h1
    cases hc : (Nat.ble s.h.next s1.h.next && Nat.blt s1.h.next 1000000000 && s1.h.ghost.isEmpty && Nat.beq s1.ds.length s.ds.length) with
    | false => rw [hc] at h; cases h
    | true =>
      rw [hc] at h
      simp only [cond] at h
      simp only [Bool.and_eq_true, Nat.blt_eq, List.isEmpty_iff] at hc
      obtain ⟨⟨⟨hle, hlt⟩, hgh⟩, hds⟩ := hc
      have hle := Nat.le_of_ble_eq_true hle
      have hds := Nat.eq_of_beq_eq_true hds
      split at h <;> try (cases h; done)
      rename_i rs1 sf1 hrec
      cases h
      obtain ⟨hl, hT0, hH0, hdsf, hall⟩ := fwd_spec os s1 sf rs1 hrec
      obtain ⟨hf, hdse⟩ := step1_fact hb h1 hds
      refine ⟨by simp [hl], rfl, rfl, hdsf.trans hdse, ?_⟩
      intro i o' hi
      cases i with
      | zero =>
        simp only [List.getElem?_cons_zero, Option.some.injEq] at hi
        subst hi
        refine ⟨⟨b, hb, by cases b <;> rfl, ?_⟩, ?_⟩
        · show OpFact Z C o b s.T s.h (Ti rs1 sf 0) (Hi rs1 sf 0)
          rw [hT0, hH0]; exact hf
        · show s.h.next ≤ (Hi rs1 sf 0).next ∧ (Hi rs1 sf 0).next < 1000000000 ∧ (Hi rs1 sf 0).ghost = []
          rw [hH0]; exact ⟨hle, hlt, hgh⟩
      | succ i =>
        simp only [List.getElem?_cons_succ] at hi
        exact hall i o' hi

/-! ### Which operation comes before which -/
theorem maskOf_spec {A : Tr Nat} {i : Nat} : ∀ (es : List Edge) (m : Nat), maskOf A i es = some m →
    (∀ x ∈ es, Region.binds .any x = true → x.on < i) ∧ ∀ j, m.testBit j = true → ∃ x ∈ es, Region.binds .any x = true ∧ (x.on = j ∨ bitA A x.on j = true)
  | [], m, h => by cases h; exact ⟨by simp, fun j hj => by simp at hj⟩
  | x :: es, m, h => by
    simp only [maskOf] at h
    split at h
    · cases h
    rename_i m1 h1
    obtain ⟨ha, hb⟩ := maskOf_spec es m1 h1
    cases hx : Region.binds .any x with
    | false =>
      rw [hx] at h
      cases h
      refine ⟨fun y hy hyb => ?_, fun j hj => ?_⟩
      · rcases List.mem_cons.1 hy with rfl | hy
        · rw [hx] at hyb; cases hyb
        · exact ha y hy hyb
      · obtain ⟨y, hy, h2⟩ := hb j hj
        exact ⟨y, by simp [hy], h2⟩
    | true =>
      rw [hx] at h
      simp only [cond] at h
      split at h <;> try (cases h; done)
      rename_i hlt
      cases h
      refine ⟨fun y hy hyb => ?_, fun j hj => ?_⟩
      · rcases List.mem_cons.1 hy with rfl | hy
        · exact Nat.blt_eq.mp hlt
        · exact ha y hy hyb
      · simp only [Nat.testBit_or, Bool.or_eq_true, Nat.testBit_two_pow, decide_eq_true_eq] at hj
        rcases hj with (hj | hj) | hj
        · obtain ⟨y, hy, h2⟩ := hb j hj
          exact ⟨y, by simp [hy], h2⟩
        · exact ⟨x, by simp, hx, .inl hj⟩
        · refine ⟨x, by simp, hx, .inr ?_⟩
          unfold bitA
          cases hA : A.get x.on with
          | none => rw [hA] at hj; simp at hj
          | some q => rw [hA] at hj; exact hj

theorem maskOf_congr {A A' : Tr Nat} {i : Nat} (hA : ∀ j, j < i → A'.get j = A.get j) : ∀ (es : List Edge), maskOf A' i es = maskOf A i es
  | [] => rfl
  | x :: es => by
    simp only [maskOf, maskOf_congr hA es]
    split
    · rfl
    · cases hx : Region.binds .any x with
      | false => rfl
      | true =>
        simp only [cond]
        cases hl : Nat.blt x.on i with
        | false => rfl
        | true => simp only [hA x.on (Nat.blt_eq.mp hl)]

theorem masks_spec : ∀ (l : List Oper) (i : Nat) (A A' : Tr Nat), i + l.length < 2 ^ 30 → masks l i A = some A' →
    (∀ j, j < i → A'.get j = A.get j) ∧ ∀ k o, l[k]? = some o → ∃ m, A'.get (i + k) = some m ∧ maskOf A' (i + k) o.after.toList = some m
  | [], i, A, A', hb, h => by cases h; exact ⟨fun _ _ => rfl, fun k o hk => by simp at hk⟩
  | o :: os, i, A, A', hb, h => by
    simp only [masks] at h
    split at h
    · cases h
    rename_i m hm
    simp only [List.length_cons] at hb
    obtain ⟨h1, h2⟩ := masks_spec os (i + 1) _ A' (by omega) h
    have hset : ∀ j, (A.set i (some m)).get j = if j = i then some m else A.get j := fun j => Tr.get_set _ _ _ _ (by omega)
    have h1' : ∀ j, j < i → A'.get j = A.get j := fun j hj => by rw [h1 j (by omega), hset, if_neg (by omega)]
    refine ⟨h1', ?_⟩
    intro k o' hk
    cases k with
    | zero =>
      simp only [List.getElem?_cons_zero, Option.some.injEq] at hk
      subst hk
      refine ⟨m, by rw [Nat.add_zero, h1 i (by omega), hset, if_pos rfl], ?_⟩
      rw [Nat.add_zero, maskOf_congr h1']; exact hm
    | succ k =>
      simp only [List.getElem?_cons_succ] at hk
      have := h2 k o' hk
      rw [show i + (k + 1) = i + 1 + k from by omega]; exact this

theorem writers_spec {nt : Nat} (hnt : nt ≤ 2 ^ 30) : ∀ (l : List Oper) (i : Nat) (W W' : Tr Nat), (∀ o ∈ l, ∀ d, o.dst = some d → d < nt) → writers l i W = some W' →
    (∀ d x, W.get d = some x → W'.get d = some x) ∧ (∀ k o d, l[k]? = some o → o.dst = some d → W'.get d = some (i + k)) ∧
    (∀ d x, W'.get d = some x → W.get d = some x ∨ ∃ k o, l[k]? = some o ∧ o.dst = some d ∧ x = i + k)
  | [], i, W, W', hb, h => by cases h; exact ⟨fun _ _ h => h, fun k o d hk => by simp at hk, fun d x h => .inl h⟩
  | o :: os, i, W, W', hb, h => by
    simp only [writers] at h
    split at h
    · rename_i hd
      obtain ⟨h1, h2, h3⟩ := writers_spec hnt os (i + 1) W W' (fun o' ho' => hb o' (by simp [ho'])) h
      refine ⟨h1, ?_, ?_⟩
      · intro k o' d hk hd'
        cases k with
        | zero => simp only [List.getElem?_cons_zero, Option.some.injEq] at hk; subst hk; rw [hd] at hd'; cases hd'
        | succ k => rw [h2 k o' d (by simpa using hk) hd']; congr 1; omega
      · intro d x hx
        rcases h3 d x hx with h4 | ⟨k, o', hk, hd', rfl⟩
        · exact .inl h4
        · exact .inr ⟨k + 1, o', by simpa using hk, hd', by omega⟩
    · rename_i d0 hd0
      cases hs : (W.get d0).isSome with
      | true => rw [hs] at h; cases h
      | false =>
        rw [hs] at h
        simp only [cond] at h
        have hd0n := hb o (by simp) d0 hd0
        have hset : ∀ j, (W.set d0 (some i)).get j = if j = d0 then some i else W.get j := fun j => Tr.get_set _ _ _ _ (by have : @LT.lt Nat _ d0 nt := hd0n; omega)
        obtain ⟨h1, h2, h3⟩ := writers_spec hnt os (i + 1) _ W' (fun o' ho' => hb o' (by simp [ho'])) h
        refine ⟨?_, ?_, ?_⟩
        · intro d x hx
          refine h1 d x ?_
          rw [hset]
          by_cases hdd : d = d0
          · subst hdd; rw [hx] at hs; cases hs
          · rw [if_neg hdd]; exact hx
        · intro k o' d hk hd'
          cases k with
          | zero =>
            simp only [List.getElem?_cons_zero, Option.some.injEq] at hk
            subst hk
            rw [hd0] at hd'
            cases hd'
            exact h1 d0 i (by rw [hset, if_pos rfl])
          | succ k => rw [h2 k o' d (by simpa using hk) hd']; congr 1; omega
        · intro d x hx
          rcases h3 d x hx with h4 | ⟨k, o', hk, hd', rfl⟩
          · rw [hset] at h4
            split at h4
            · rename_i hdd; subst hdd; cases h4; exact .inr ⟨0, o, rfl, hd0, rfl⟩
            · exact .inl h4
          · exact .inr ⟨k + 1, o', by simpa using hk, hd', by omega⟩

theorem hiOf_spec {A : Tr Nat} {i : Nat} : ∀ (ks : List Nat) (m : Nat), m ≤ hiOf A i ks m ∧ hiOf A i ks m ≤ m + ks.length ∧
    (∀ q, hiOf A i ks m = m + q → q < ks.length → isEff (ks.getD q 4) = true ∧ bitA A (m + q) i = true)
  | [], m => ⟨Nat.le_refl _, Nat.le_refl _, fun q _ h => by simp at h⟩
  | k :: ks, m => by
    simp only [hiOf]
    obtain ⟨h1, h2, h3⟩ := hiOf_spec (A := A) (i := i) ks (m + 1)
    cases hc : (isEff k && bitA A m i) with
    | true =>
      simp only [cond, List.length_cons]
      refine ⟨Nat.le_refl _, by omega, fun q hq _ => ?_⟩
      have : q = 0 := by omega
      subst this
      simpa using hc
    | false =>
      simp only [cond, List.length_cons]
      refine ⟨by omega, by omega, fun q hq hl => ?_⟩
      obtain ⟨q', rfl⟩ : ∃ q', q = q' + 1 := ⟨q - 1, by omega⟩
      have := h3 q' (by omega) (by omega)
      rw [show m + (q' + 1) = m + 1 + q' from by omega]
      simpa using this
theorem loOf_spec {A : Tr Nat} {i : Nat} : ∀ (ks : List Nat) (m : Nat), loOf A i ks m ≤ m + ks.length ∧ ∀ q, m + q < loOf A i ks m → isEff (ks.getD q 4) = true → bitA A i (m + q) = true
  | [], m => ⟨Nat.le_refl _, fun q h _ => by simp only [loOf] at h; omega⟩
  | k :: ks, m => by
    simp only [loOf]
    obtain ⟨h1, h2⟩ := loOf_spec (A := A) (i := i) ks (m + 1)
    cases hc : (isEff k && !bitA A i m) with
    | true =>
      simp only [cond, List.length_cons]
      exact ⟨by omega, fun q hq => by omega⟩
    | false =>
      simp only [cond, List.length_cons]
      refine ⟨by omega, fun q hq he => ?_⟩
      cases q with
      | zero =>
        simp only [List.getD_cons_zero] at he
        rw [he] at hc
        simpa using hc
      | succ q =>
        have := h2 q (by omega) (by simpa using he)
        rw [show m + (q + 1) = m + 1 + q from by omega]; exact this
theorem lvos_spec {A : Tr Nat} {all : List Nat} : ∀ (ks : List Nat) (i q : Nat), q < ks.length → (lvos A all ks i).getD q 0 = lvoOf A all (i + q) (ks.getD q 4)
  | [], i, q, h => by simp at h
  | k :: ks, i, q, h => by
    simp only [lvos, forceNat_eq]
    cases q with
    | zero => simp
    | succ q =>
      simp only [List.length_cons] at h
      have := lvos_spec (A := A) (all := all) ks (i + 1) q (by omega)
      simp only [List.getD_cons_succ]
      rw [this]; congr 1; omega

theorem sameV_eq : ∀ (n : Nat) (a b : Value), sameV n a b = true → a = b
  | 0, a, b, h => by simp [sameV] at h
  | n + 1, a, b, h => by
    have haddr : ∀ x y : Addr, x.block = y.block → x.off = y.off → x.spot = none → y.spot = none → x = y := by
      rintro ⟨b1, o1, s1⟩ ⟨b2, o2, s2⟩ h1 h2 h3 h4
      simp only at h1 h2 h3 h4
      rw [h1, h2, h3, h4]
    simp only [sameV] at h
    split at h
    · simpa using h
    · simp at h; rw [h.1, h.2]
    · rename_i x y
      have h' : x.data.toList = y.data.toList := by simpa using h
      have : x = y := by
        obtain ⟨x⟩ := x; obtain ⟨y⟩ := y
        congr 1
        exact Array.ext' h'
      rw [this]
    · rfl
    · rename_i x y
      simp only [Bool.and_eq_true, Option.isNone_iff_eq_none] at h
      rw [haddr x y (Nat.eq_of_beq_eq_true h.1.1.1) (Nat.eq_of_beq_eq_true h.1.1.2) h.1.2 h.2]
    · simp only [Bool.and_eq_true] at h
      rw [Nat.eq_of_beq_eq_true h.1, Nat.eq_of_beq_eq_true h.2]
    · rename_i x l c y l' c'
      simp only [Bool.and_eq_true, Option.isNone_iff_eq_none] at h
      rw [haddr x y (Nat.eq_of_beq_eq_true h.1.1.1.1.1) (Nat.eq_of_beq_eq_true h.1.1.1.1.2) h.1.1.1.2 h.1.1.2, Nat.eq_of_beq_eq_true h.1.2, Nat.eq_of_beq_eq_true h.2]
    · rfl
    · rename_i t x t' y
      simp only [Bool.and_eq_true] at h
      rw [Nat.eq_of_beq_eq_true h.1, sameV_eq n x y h.2]
    · rename_i x y
      simp only [Bool.and_eq_true, List.all_eq_true] at h
      have hs := Nat.eq_of_beq_eq_true h.1
      have : x = y := by
        apply Array.ext'
        apply List.ext_getElem (by simpa using hs)
        intro i h1 h2
        have := h.2 (x.toList[i], y.toList[i]) (by
          rw [List.mem_iff_getElem]
          exact ⟨i, by simp at h1 h2 ⊢; omega, by simp⟩)
        exact sameV_eq n _ _ this
      rw [this]
    · cases h
end Go.Eng
