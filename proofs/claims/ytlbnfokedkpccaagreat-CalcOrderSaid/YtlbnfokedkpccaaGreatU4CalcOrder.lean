import Derived.Test.YtlbnfokedkpccaaGreatSeat3
import Derived.Test.YtlbnfokedkpccaaGreatOrda
import Derived.WalkKit
import Derived.ProofKit
import Derived.OpenShut
import Derived.Carry
import Derived.SizedLaws
import Derived.Deep.DeepHandedRow
import Derived.Lib.LaidTab
set_option linter.all false
namespace Go.Proofs.YtlbnfokedkpccaaGreat
open Go.Eng Go.ChangeShapes Go.WideShapes Go.ChangeAt Go.RowKit
namespace UCalcOrder

section
variable {H : Type} {enc : TypeId × Value → H} {P : Program}
theorem post_of_below {f : Func} {s : ChangeSpec} {apart fresh handsOn again : Bool} {W W' : World} {args : Array Value} {v : Value} {ds gs : List (DataW H)} {before pa pv : List MemPlace}
    (hW : DataW.Whole enc P f.params.toList s.vars apart W args.toList ds gs before)
    (hres : ∀ (b : Nat) (sp : Nat → Bool) (hd : Bool), DataW.TrodAll enc P W' b sp hd f.resultTypes.toList (v.resultList f.resultTypes.size) (s.fn H (ds ++ gs)).results [])
    (hargs : ∀ sp : Nat → Bool, (∀ p ∈ before, sp p.block = true) → DataW.TrodAll enc P W' 0 sp true f.params.toList args.toList (s.fn H (ds ++ gs)).args pa)
    (hvars : ∀ sp : Nat → Bool, (∀ p ∈ before, sp p.block = true) → DataW.TrodVars enc P W' sp s.vars (s.fn H (ds ++ gs)).vars pv)
    (hps : before = pa ++ pv) (hb : Below W.heap.size W W')
    (hok : ∀ (j : Nat) (t : TypeId) (r : Value), f.resultTypes[j]? = some t → (v.resultList f.resultTypes.size)[j]? = some r → Value.okWide P W' .any 0 t r) :
    s.post enc P f apart fresh handsOn again W args v W' := by
  have hlt : ∀ p ∈ before, p.block < W.heap.size := fun p hp => hW.lt p hp
  have hold : ∀ p ∈ before, (fun b => decide (b < W.heap.size)) p.block = true := fun p hp => by simpa using hlt p hp
  refine ⟨ds, gs, before, [], pa, pv, hW, hres _ _ _, hargs _ hold, hvars _ hold, World.keptBut_mono (fun p hp => ⟨hp, ?_⟩) (hb.frame (· ∈ before)), fun _ => ?_⟩
  · rw [hps, List.mem_append] at hp
    exact Or.inr hp
  · obtain ⟨_, _, _, _, _, hz, hn⟩ := hW
    refine ⟨hok, _, _, ([] ++ pa) ++ pv, ⟨[] ++ pa, pv, trodAll_append (hargs _ (fun _ _ => rfl)) (hres _ _ _), hvars _ (fun _ _ => rfl), rfl, ?_, ?_⟩, ?_⟩
    · intro b off hp
      have hin : MemPlace.cell b off ∈ before := by rw [hps]; simpa using hp
      rw [hb.frozen (hlt _ hin)]
      exact hz b off hin
    · intro ha
      have := hn ha
      rw [hps] at this
      simpa using this
    · intro p hp _
      rw [hps]
      simpa using hp
/-- A slice of numbers that came in. -/
theorem ints_of {W : World} {t e : TypeId} {a : Option Addr} {n c : Nat} {d : DataW H} {p : List MemPlace} (ht : P.underlying t = some (.slice e)) (he : P.underlying e = some (.int .i64)) (hc : P.cellsOf e = 1)
    (h : DataW.Trod enc P W 0 (fun _ => true) true t (.slice a n c) d p) (hz : ∀ el sp, d = .slice el sp → (el.length + sp.length) * 8 ≤ reachBytes) : ∃ l, IsInts W.heap.size W a n l := by
  obtain ⟨fuel, hf⟩ := h
  rcases open_ints ht he hc hf with ⟨hcs, hx⟩ | ⟨a', len, cap', zs, hcs, _, hl, hm, hzl, hx, hcell, _⟩
  · simp [Value.cells] at hcs
    obtain ⟨rfl, rfl, rfl⟩ := hcs
    exact ⟨[], rfl, by simp, fun i x hi => by simp at hi⟩
  · simp [Value.cells] at hcs
    obtain ⟨rfl, rfl, rfl⟩ := hcs
    simp only [Prod.mk.injEq] at hx
    have hr := hz _ _ hx.1
    simp only [if_true] at hzl
    have hlen : (zs.take n).length = n := by rw [List.length_take]; omega
    simp only [lits, List.length_map, hlen, List.length_drop, reachBytes] at hr
    refine ⟨zs.take n, hlen.symm, by rw [hlen]; omega, fun i x hi => ?_⟩
    have hin : i < n := by have := (List.getElem?_eq_some_iff.1 hi).1; omega
    have hci := hcell i (by omega)
    have hc0 := hcell 0 (by omega)
    have hx' : zs.getD i 0 = x := by rw [List.getElem?_take, if_pos hin] at hi; simp [List.getD, hi]
    rw [hx'] at hci
    rw [show a'.add 0 = a' from if_pos rfl] at hc0
    have hsp : a'.spot = none := by
      unfold World.cell? at hc0
      split at hc0
      · split at hc0
        · cases hc0
        · rename_i hs; simpa using hs
      · cases hc0
    obtain ⟨b, o, s⟩ := a'
    simp only at hsp
    subst hsp
    rw [add_plain] at hci
    exact ⟨b, o, rfl, cell_lt hci, hci⟩
theorem okWide_i32 {w : World} {r : Reach} {base : Nat} {t : TypeId} {v : Value} (ht : P.underlying t = some (.int .i32)) (h : Value.okWide P w r base t v) : ∃ n, v = .int .i32 n ∧ -2147483648 ≤ n ∧ n ≤ 2147483647 := by
  simp only [Value.okWide, ht, Cell.okWide] at h
  cases v <;> simp_all [Cell.ok, IntKind.has, IntKind.min, IntKind.max, IntKind.bits, IntKind.signed]
end

/-- What the walk must give. -/
def Univ : Prop := ∀ (a1 : Option Addr) (n1 c1 : Nat) (l1 : List Int) (a2 : Option Addr) (n2 c2 : Nat) (l2 : List Int) (a3 : Option Addr) (n3 c3 : Nat) (l3 : List Int) W, laidMetH Tryz.prog Rows.calcOrderRow.laid W → IsInts W.heap.size W a1 n1 l1 → IsInts W.heap.size W a2 n2 l2 → IsInts W.heap.size W a3 n3 l3 → Calls Tryz.prog 12 #[.slice a1 n1 c1, .slice a2 n2 c2, .slice a3 n3 c3] W fun en w' => en = .returned (.bool true) ∧ Below W.heap.size W w'

theorem own : ownKnob Tryz.prog.godebug = none := by kernel_rfl
theorem laidOutP : laidOutB Tryz.prog = true := by kernel_rfl
theorem bytesInt : Tryz.prog.bytesOf 3 = 8 := by kernel_rfl
theorem cellsInt : Tryz.prog.cellsOf 3 = 1 := by kernel_rfl

set_option maxRecDepth 100000 in
theorem contract (K : Univ) (H : Type) (enc : TypeId × Value → H) (W : World) (base : Nat) (args : Array Value) (ds gs : List (DataW H)) (before : List MemPlace)
    (hval : ∀ (j : Nat) t v, Tryz.f12.params[j]? = some t → args[j]? = some v → Value.okWide Tryz.prog W .any base t v)
    (hW : DataW.Whole enc Tryz.prog Tryz.f12.params.toList Rows.calcOrderSpec.vars false W args.toList ds gs before) (hsz : (DataW.weightsEach Tryz.prog (Tryz.f12.params.toList ++ (OpenSpec.ofChange Rows.calcOrderSpec).bare.plain.varTypes Tryz.prog) (ds ++ gs)).all (· ≤ reachBytes) = true) (hL : laidMetH Tryz.prog Rows.calcOrderRow.laid W) :
    Calls Tryz.prog 12 args W fun e W' => ∃ v, e = .returned v ∧ Rows.calcOrderSpec.post enc Tryz.prog Tryz.f12 false true false false W args v W' := by
  have hW' := hW
  obtain ⟨p, q, hA0, hV, rfl, hfz, hnd⟩ := hW
  have hA : DataW.TrodAll enc Tryz.prog W 0 (fun _ => true) true Tryz.f12.params.toList args.toList ds p := hA0
  rw [Tryz.params12] at hA hval hsz
  obtain ⟨v1, v2, v3, d1, d2, d3, q1, q2, q3, rfl, rfl, rfl, h1, h2, h3⟩ := trodAll_three hA
  obtain ⟨rfl, rfl⟩ := trodVars_none hV
  clear hA0
  simp only [List.append_nil] at hW'
  have hlt : ∀ x ∈ q1 ++ q2 ++ q3, x.block < W.heap.size := fun x hx => by simpa using hW'.lt x hx
  have ints_of := @ints_of H enc Tryz.prog W 51 3
  replace ints_of := fun {a n c d p} h hz => @ints_of a n c d p Tryz.underlying51 Tryz.underlying3 cellsInt h hz
  obtain ⟨a1, n1, c1, rfl⟩ := okWide_slice Tryz.underlying51 (hval 0 51 v1 rfl rfl)
  obtain ⟨l1, i1⟩ := ints_of h1 (fun el sp hd => by have := sized_slice hsz (j := 0) (t := 51) (e := 3) (elems := el) (spare := sp) rfl (by simp [hd]) Tryz.underlying51; rwa [bytesInt] at this)
  obtain ⟨a2, n2, c2, rfl⟩ := okWide_slice Tryz.underlying51 (hval 1 51 v2 rfl rfl)
  obtain ⟨l2, i2⟩ := ints_of h2 (fun el sp hd => by have := sized_slice hsz (j := 1) (t := 51) (e := 3) (elems := el) (spare := sp) rfl (by simp [hd]) Tryz.underlying51; rwa [bytesInt] at this)
  obtain ⟨a3, n3, c3, rfl⟩ := okWide_slice Tryz.underlying51 (hval 2 51 v3 rfl rfl)
  obtain ⟨l3, i3⟩ := ints_of h3 (fun el sp hd => by have := sized_slice hsz (j := 2) (t := 51) (e := 3) (elems := el) (spare := sp) rfl (by simp [hd]) Tryz.underlying51; rwa [bytesInt] at this)
  refine (K a1 n1 c1 l1 a2 n2 c2 l2 a3 n3 c3 l3 W hL i1 i2 i3).mono fun e W' ⟨he, hg⟩ => ?_
  subst he
  have st1 : ∀ sp : Nat → Bool, (∀ x ∈ q1, sp x.block = true) → DataW.Trod enc Tryz.prog W' 0 sp true 51 (.slice a1 n1 c1) d1 q1 := fun sp hsp =>
    WideElems.Trod_stays laidOutP (by kernel_rfl) (of_decide_eq_true (by kernel_rfl)) h1 (fun x hx => hg.same (hlt x (by simp [hx]))) hsp
  have st2 : ∀ sp : Nat → Bool, (∀ x ∈ q2, sp x.block = true) → DataW.Trod enc Tryz.prog W' 0 sp true 51 (.slice a2 n2 c2) d2 q2 := fun sp hsp =>
    WideElems.Trod_stays laidOutP (by kernel_rfl) (of_decide_eq_true (by kernel_rfl)) h2 (fun x hx => hg.same (hlt x (by simp [hx]))) hsp
  have st3 : ∀ sp : Nat → Bool, (∀ x ∈ q3, sp x.block = true) → DataW.Trod enc Tryz.prog W' 0 sp true 51 (.slice a3 n3 c3) d3 q3 := fun sp hsp =>
    WideElems.Trod_stays laidOutP (by kernel_rfl) (of_decide_eq_true (by kernel_rfl)) h3 (fun x hx => hg.same (hlt x (by simp [hx]))) hsp
  exact ⟨_, rfl, post_of_below (pa := q1 ++ q2 ++ q3) (pv := []) hW' (fun _ _ _ => trodAll_cons_mk (shut_bool Tryz.underlying4 _) trodAll_mk0) (fun sp hsp => (by rw [List.append_assoc]; exact trodAll_mk3 (st1 sp (fun x hx => hsp x (by simp [hx]))) (st2 sp (fun x hx => hsp x (by simp [hx]))) (st3 sp (fun x hx => hsp x (by simp [hx]))))) (fun _ _ => rfl) (by simp)
    hg (ok_one (by kernel_rfl) rfl (okWide_bool_mk Tryz.underlying4 _))⟩

noncomputable def low : Nat := (World.holding Tryz.prog default ⟨#[], #[], []⟩).heap.size
noncomputable def lay (h : Array Obj) (g : Nat) (cs : List Value) : Array Obj := h.modify g fun
  | .cells _ t frozen => .cells cs.toArray t frozen
  | o => o
/-- A world for the witness. -/
noncomputable def laidWorld (os : Os) : World :=
  let w0 := World.holding Tryz.prog os ⟨#[
], #[.slice none 0 0, .slice none 0 0, .slice none 0 0], []⟩
  { w0 with heap := w0.heap }
theorem laid_met (os : Os) : laidMet Tryz.prog Rows.calcOrderRow.laid ((laidWorld os).forCall (fun _ _ => 0) ⟨#[], #[.slice none 0 0, .slice none 0 0, .slice none 0 0], []⟩).memory :=
  laidMet_of_run' 8 (by kernel_rfl) (by kernel_rfl)
theorem reads (os : Os) {H : Type} (enc : TypeId × Value → H) : ∃ places, DataW.whole enc Tryz.prog ((laidWorld os).forCall (fun _ _ => 0) ⟨#[], #[.slice none 0 0, .slice none 0 0, .slice none 0 0], []⟩).memory Tryz.f12.params.toList Rows.calcOrderSpec.vars false (#[.slice none 0 0, .slice none 0 0, .slice none 0 0] : Array Value).toList 8 = some ([.nil, .nil, .nil], [], places) :=
  ⟨[], by kernel_rfl⟩

set_option maxRecDepth 100000 in
theorem lifted (K : Univ) (os : Os) (started : os.Started) (H : Type) (enc : TypeId × Value → H) (F : Stop.Interp) :
    ReturnsInHanded {} Tryz.checked os 12 .any ((OpenSpec.ofChange Rows.calcOrderSpec).preRow enc Tryz.prog Tryz.f12 Rows.calcOrderRow.domain false Rows.calcOrderRow.laid) (((OpenSpec.ofChange Rows.calcOrderSpec).at F).post enc Tryz.prog Tryz.f12 false true false false) := by
  obtain ⟨places, hx⟩ := reads os enc
  refine returnsInHanded_of_row (C := Tryz.checked) (s := OpenSpec.ofChange Rows.calcOrderSpec) own started (by kernel_rfl) Tryz.func12
    (witness_row_at (enc := enc) (C := Tryz.checked) false (laidWorld os) #[.slice none 0 0, .slice none 0 0, .slice none 0 0] rfl (by kernel_rfl) (by kernel_rfl) (by kernel_rfl)
      (OpenSpec.preRow_of_cond 8 hx (by kernel_rfl) (fun k hk => by cases hk) (by kernel_rfl) (by rw [MakeChecks.laidMetH_plain _ _ _ (by kernel_rfl)]; exact laid_met os))) ?_
  intro W base args ds gs before hval hW _ _ hsz hL _ _
  exact contract K H enc W base args ds gs before hval hW hsz hL

theorem said (K : Univ) : Rows.CalcOrderSaid :=
  OpenClaim.holds_of_cond 12 Tryz.f12 rfl rfl rfl rfl rfl rfl rfl ⟨rfl, rfl, rfl, rfl, rfl⟩ rfl rfl rfl rfl rfl (by kernel_rfl) Tryz.func12 (by kernel_rfl)
    (of_decide_eq_true (by kernel_rfl)) (by unfold Func.isWrapper; first | (rw [if_pos (by decide +kernel)]; kernel_rfl) | (rw [if_neg (by decide +kernel)]; exact ⟨rfl, rfl⟩))
    (fun os started H enc _ F => by rw [OpenClaim.pre_eq_preRow]; exact lifted K os started H enc F)

end UCalcOrder
end Go.Proofs.YtlbnfokedkpccaaGreat
