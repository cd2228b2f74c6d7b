/- Which types are valid, as the reference says it, and as the program does. -/
import Derived.Test.YtofboalgbgipoaaGreatDoorType
import Derived.Test.YtofboalgbgipoaaGreatDoorValx
set_option linter.all false
namespace Go.Proofs.YtofboalgbgipoaaGreatDoor
open Go.RowKit Go.Shelf
attribute [local go_sem] Oper.semAt_some

mutual
def YT.cnt : YT → Nat
  | .mk _ l => YT.cntL l + 1
def YT.cntL : List YT → Nat
  | [] => 0
  | t :: l => YT.cnt t + YT.cntL l
end
theorem YT.cnt_pos (V : YT) : 1 ≤ V.cnt := by cases V; simp [YT.cnt]
mutual
theorem YT.pre_len : ∀ (T : YT) (d : Int), (YT.pre d T).length = T.cnt
  | .mk x l, d => by simp [YT.pre, YT.cnt, YT.preL_len l (d + 1)]
theorem YT.preL_len : ∀ (l : List YT) (d : Int), (YT.preL d l).length = YT.cntL l
  | [], d => by simp [YT.preL, YT.cntL]
  | t :: l, d => by simp [YT.preL, YT.cntL, YT.pre_len t d, YT.preL_len l d]
end
theorem YT.cntL_le {N : Nat} : ∀ {l : List YT}, (∀ c ∈ l, c.cnt ≤ N) → YT.cntL l ≤ l.length * N
  | [], _ => by simp [YT.cntL]
  | t :: l, h => by
    have h1 := h t (by simp)
    have h2 := YT.cntL_le (l := l) (fun c hc => h c (by simp [hc]))
    simp only [YT.cntL, List.length_cons, Nat.add_mul]
    omega
theorem YT.htL_le {N : Nat} : ∀ {l : List YT}, (∀ c ∈ l, c.ht ≤ N) → YT.htL l ≤ N
  | [], _ => by simp [YT.htL]
  | t :: l, h => by
    have h1 := h t (by simp)
    have h2 := YT.htL_le (l := l) (fun c hc => h c (by simp [hc]))
    simp only [YT.htL]
    omega
theorem cells2 {W : World} {B : Nat} {t : TypeId} {a b : Value} (h : W.heap[B]? = some (.cells #[a, b] t (0, 0))) :
    (W.cell? ⟨B, 0, none⟩ = some a ∧ W.cell? ⟨B, 1, none⟩ = some b) ∧ W.frozen? ⟨B, 0, none⟩ = false := by
  unfold World.cell? World.frozen?
  simp only [h]
  exact ⟨⟨rfl, rfl⟩, rfl⟩
/-- A type whose nodes are valid, at most so many within one another. -/
def typedF : Nat → YT → Bool
  | 0, _ => false
  | d + 1, .mk x l => tokNode x.k x.len && l.all (typedF d)
/-- Is it valid? -/
def validY (T : YT) : Bool := typedF 6 T && decide (T.cnt ≤ 40)
theorem tokNode_small {k : Int} {len : Nat} (h : tokNode k len = true) : len ≤ 8 := by
  unfold tokNode at h
  repeat' split at h
  all_goals first | (simp only [Bool.and_eq_true, decide_eq_true_eq] at h; omega) | cases h
theorem typedF_nodes : ∀ (d : Nat) (T : YT) (e : Int), e + d = 7 → ((YT.pre e T).all tokAt = true ↔ typedF d T = true)
  | 0, .mk x l, e, he => by
    simp only [YT.pre, List.all_cons, typedF, tokAt]
    rw [decide_eq_false (by show ¬ e ≤ 6; omega)]
    simp
  | d + 1, .mk x l, e, he => by
    have key : ∀ m : List YT, ((YT.preL (e + 1) m).all tokAt = true ↔ m.all (typedF d) = true) := by
      intro m
      induction m with
      | nil => simp [YT.preL]
      | cons t m ih =>
        simp only [YT.preL, List.all_append, List.all_cons, Bool.and_eq_true]
        rw [ih, typedF_nodes d t (e + 1) (by omega)]
    simp only [YT.pre, List.all_cons, typedF, Bool.and_eq_true]
    rw [key l]
    simp only [tokAt, Bool.and_eq_true, decide_eq_true_eq]
    constructor
    · rintro ⟨⟨_, h1⟩, h2⟩; exact ⟨h1, h2⟩
    · rintro ⟨h1, h2⟩; exact ⟨⟨by omega, h1⟩, h2⟩
theorem tokP_valid (T : YT) : tokP (T.pre 1) ↔ validY T = true := by
  unfold tokP validY
  rw [typedF_nodes 6 T 1 (by omega), YT.pre_len, Bool.and_eq_true, decide_eq_true_eq]
  exact And.comm
theorem tsizeF_valid (T : YT) : tsizeF T = if validY T = true then (T.cnt : Int) else 0 := by
  unfold tsizeF
  by_cases h : validY T = true
  · rw [if_pos h, if_pos ((tokP_valid T).2 h), YT.pre_len]
  · rw [if_neg h, if_neg (fun h' => h ((tokP_valid T).1 h'))]
theorem tsizeF_pos (T : YT) : decide (0 < tsizeF T) = validY T := by
  rw [tsizeF_valid]
  cases h : validY T with
  | true => have := T.cnt_pos; simp; omega
  | false => simp

set_option maxRecDepth 100000 in
set_option maxHeartbeats 4000000 in
theorem typed_any : ∀ (left : Nat) (z : Int), z = left → left ≤ 6 → ∀ (T : YT) (n₀ : Nat) (w : World), IsY n₀ w T → n₀ ≤ w.heap.size →
    Calls Tryz.prog 52 #[T.node.val, .int .i64 z] w fun e w' => e = .returned (.bool (typedF left T)) ∧ Below w.heap.size w w' := by
  intro left
  induction left with
  | zero =>
    intro z hz _ T n₀ w hT hn
    obtain ⟨⟨xk, xa, xl, xc⟩, kids⟩ := T
    have hz0 : z = 0 := by omega
    clear hz
    subst hz0
    dsimp only [YT.node, TNode.val]
    clear hT hn
    go_enter Tryz.func52, Tryz.ntmps52
    go_wp2
    go_ret
    exact ⟨ret_bool rfl, (Below.refl _ _).alloc (Nat.le_refl _) _⟩
  | succ left ih =>
    intro z hz h6 T n₀ w hT hn
    obtain ⟨⟨xk, xa, xl, xc⟩, kids⟩ := T
    dsimp only [YT.node, TNode.val]
    cases hT with
    | mk _ _ hlx hmx hcx hkx =>
    simp only at hlx hmx hcx
    have hz1 : ¬ z = 0 := by omega
    have hzl : 1 ≤ z := by omega
    have hzu : z ≤ 6 := by omega
    have hxl : (xl : Int) ≤ 140737488351232 := by omega
    have IH := Lib.hid (ih (z - 1) (by omega) (by omega))
    have HC := Lib.hid hcx
    have HK := Lib.hid hkx
    have HL := Lib.hid hlx
    have HN := Lib.hid hn
    clear ih hcx hkx hmx hz h6 hlx hn
    obtain ⟨q, hq⟩ : ∃ q, tokNode xk xl = q := ⟨_, rfl⟩
    have HQ := Lib.hid hq
    clear hq
    have hq1 : (w.alloc (.cells #[.int .i64 xk, .slice xa xl xc] 27)).heap[w.heap.size]? = some (.cells #[.int .i64 xk, .slice xa xl xc] 27 (0, 0)) := World.alloc_heap_new w _
    have HX := Lib.hid hq1
    have hb1 : Below w.heap.size w (w.alloc (.cells #[.int .i64 xk, .slice xa xl xc] 27)) := (Below.refl _ _).alloc (Nat.le_refl _) _
    have HB := Lib.hid hb1
    clear hq1 hb1
    go_enter Tryz.func52, Tryz.ntmps52
    go_upto_region 4 with fail
    iterate 10 go_step
    go_cut [0, 5] (fun s0 b wx => s0 = .agg #[.int .i64 xk, .slice xa xl xc] ∧ b = .bool q ∧ wx = w.alloc (.cells #[.int .i64 xk, .slice xa xl xc] 27))
    case first =>
      clear IH HC HK HL HN HX HB
      by_cases hk0 : xk = 0
      · subst hk0
        by_cases hl0 : xl = 0
        all_goals
          have e := HQ.out
          simp [tokNode, hl0] at e
          subst e
          clear HQ
          go_wp2
          all_goals (go_meet; refine ⟨?_, ?_, ?_⟩ <;> first | rfl | (simp [hl0]; done) | (simp [hl0]; omega))
      by_cases hk1 : xk = 1
      · subst hk1
        by_cases hl0 : xl = 0
        all_goals
          have e := HQ.out
          simp [tokNode, hl0] at e
          subst e
          clear HQ
          go_wp2
          all_goals (go_meet; refine ⟨?_, ?_, ?_⟩ <;> first | rfl | (simp [hl0]; done) | (simp [hl0]; omega))
      by_cases hk2 : xk = 2
      · subst hk2
        by_cases hl0 : xl ≤ 8
        all_goals
          have e := HQ.out
          simp [tokNode, hl0] at e
          subst e
          clear HQ
          go_wp2
          all_goals (go_meet; refine ⟨?_, ?_, ?_⟩ <;> first | rfl | (simp [hl0]; done) | (simp [hl0]; omega))
      by_cases hk3 : xk = 3
      · subst hk3
        have hLi := fun w => Lies_any (xl : Int) 1 8 w
        have e := HQ.out
        have e2 : tokNode 3 xl = (decide ((1 : Int) ≤ (xl : Int)) && decide ((xl : Int) ≤ 8)) := by
          unfold tokNode
          rw [if_neg (by decide), if_neg (by decide), if_neg (by decide), if_pos rfl]
          congr 1 <;> exact decide_eq_decide.2 (by omega)
        rw [e2] at e
        rw [e] at hLi
        clear HQ e e2
        go_wp2_with (go_at_call 66; refine (hLi _).mono ?_; clear hLi; rintro e w' ⟨rfl, rfl⟩)
        all_goals (go_meet; refine ⟨?_, ?_, ?_⟩ <;> rfl)
      · have e := HQ.out
        simp [tokNode, hk0, hk1, hk2, hk3] at e
        subst e
        clear HQ
        go_wp2
        all_goals (go_meet; refine ⟨?_, ?_, ?_⟩ <;> rfl)
    case rest =>
      obtain ⟨rfl, rfl, rfl⟩ := hcut
      go_wp2
      go_loopw [5, 6] (fun b i wr => ∃ k : Nat, k ≤ xl ∧ i = .int .i64 k ∧ (∃ p : Bool, b = .bool p ∧ (q && (kids.take k).all (typedF left)) = p) ∧ Below (w.alloc (.cells #[.int .i64 xk, .slice xa xl xc] 27)).heap.size (w.alloc (.cells #[.int .i64 xk, .slice xa xl xc] 27)) wr) (fun _ i _ => xl - (intOf i).toNat)
      case atStart => exact ⟨0, Nat.zero_le _, rfl, ⟨q, rfl, by simp⟩, Below.refl _ _⟩
      case round =>
        obtain ⟨k, hk, rfl, ⟨p, rfl, hp⟩, hb⟩ := hrel
        have HP := Lib.hid hp
        have HW := Lib.hid hb
        clear hp hb
        have hbw : Below w.heap.size w wr := HB.out.trans (HW.out.mono HB.out.size)
        have HBW := Lib.hid hbw
        clear hbw
        obtain ⟨⟨b0, b1⟩, _⟩ := cells2 ((HW.out.block _ (Array.getElem?_eq_some_iff.1 HX.out).1).trans HX.out)
        cases p with
        | false =>
          go_wp2
          go_ret
          refine ⟨ret_bool ?_, HBW.out⟩
          have h1 := HP.out
          simp only [typedF, HQ.out]
          rw [← List.take_append_drop k kids, List.all_append, ← Bool.and_assoc, h1, Bool.false_and]
        | true =>
          have h1 := HP.out
          simp only [Bool.and_eq_true] at h1
          by_cases hlt : k < xl
          · have hkl : k < kids.length := by have := HL.out; omega
            obtain ⟨c, hcc⟩ : ∃ c, kids[k]? = some c := ⟨kids[k], by simp [hkl]⟩
            obtain ⟨b, off, rfl, hbb, e0, e1⟩ := HC.out k c hcc
            have hn := HN.out
            have f0 := ((HBW.out.mono hn).cell (p := ⟨b, off + k * 2, none⟩) hbb).trans e0
            have f1 := ((HBW.out.mono hn).cell (p := ⟨b, off + k * 2 + 1, none⟩) hbb).trans e1
            have hC := IH.out c n₀ wr ((HK.out c (List.mem_of_getElem? hcc)).bel (HBW.out.mono hn)) (by have := HBW.out.size; omega)
            obtain ⟨r, hr⟩ : ∃ r, typedF left c = r := ⟨_, rfl⟩
            rw [hr] at hC
            have hC' : Calls Tryz.prog 52 #[.agg #[.int .i64 c.node.k, .slice c.node.a c.node.len c.node.cap], .int .i64 (z - 1)] wr fun e W' =>
                e = .returned (.bool r) ∧ Hid (Below (w.alloc (.cells #[.int .i64 xk, .slice (some ⟨b, off, none⟩) xl xc] 27)).heap.size (w.alloc (.cells #[.int .i64 xk, .slice (some ⟨b, off, none⟩) xl xc] 27)) W') :=
              hC.mono fun e W' h => ⟨h.1, Lib.hid (HW.out.trans (h.2.mono HW.out.size))⟩
            have hall : (q && (kids.take (k + 1)).all (typedF left)) = r := by
              have hl := List.getElem?_eq_some_iff.1 hcc
              rw [List.take_succ_eq_append_getElem hl.1, List.all_append, hl.2, h1.1, h1.2]
              simp [hr]
            have HA := Lib.hid hall
            clear hall hC hr hcc hbb e0 e1 hkl h1 hn
            go_wp2_with (go_at_call 52; refine hC'.mono ?_; clear hC'; rintro e W4 ⟨rfl, H4⟩)
            go_roundw
            case rel => exact ⟨k + 1, by omega, by go_num, ⟨r, rfl, HA.out⟩, H4.out⟩
            case measure => simp [intOf]; omega
          · have hks : kids.length ≤ k := by have := HL.out; omega
            have HK2 := Lib.hid hks
            have H1 := Lib.hid h1
            clear hks h1
            go_wp2
            go_ret
            refine ⟨ret_bool ?_, HBW.out⟩
            have h2 := H1.out.2
            rw [List.take_of_length_le HK2.out] at h2
            simp only [typedF, HQ.out, h2, H1.out.1]
            rfl

theorem typedF_cnt {n₀ : Nat} {W : World} : ∀ (d : Nat) (T : YT), typedF d T = true → IsY n₀ W T → T.cnt ≤ 9 ^ d
  | 0, _, h, _ => by simp [typedF] at h
  | d + 1, .mk x l, h, hT => by
    simp only [typedF, Bool.and_eq_true, List.all_eq_true] at h
    have h8 := tokNode_small h.1
    cases hT with
    | mk _ _ hlen _ _ hk =>
    have h1 := YT.cntL_le (l := l) (N := 9 ^ d) (fun c hc => typedF_cnt d c (h.2 c hc) (hk c hc))
    have h2 : l.length * 9 ^ d ≤ 8 * 9 ^ d := Nat.mul_le_mul_right _ (by omega)
    have h3 : 1 ≤ 9 ^ d := Nat.one_le_pow _ _ (by omega)
    have h4 : 9 ^ (d + 1) = 8 * 9 ^ d + 9 ^ d := by rw [Nat.pow_succ]; omega
    simp only [YT.cnt]
    omega
theorem YT.cntL_take {l : List YT} {k : Nat} {c : YT} (h : l[k]? = some c) : YT.cntL (l.take (k + 1)) = YT.cntL (l.take k) + c.cnt := by
  have happ : ∀ (a b : List YT), YT.cntL (a ++ b) = YT.cntL a + YT.cntL b := by
    intro a b
    induction a with
    | nil => simp [YT.cntL]
    | cons t a ih => simp only [List.cons_append, YT.cntL, ih]; omega
  have hl := List.getElem?_eq_some_iff.1 h
  rw [List.take_succ_eq_append_getElem hl.1, happ, hl.2]
  simp [YT.cntL]
theorem YT.cntL_take_le (l : List YT) (k : Nat) : YT.cntL (l.take k) ≤ YT.cntL l := by
  have happ : ∀ (a b : List YT), YT.cntL (a ++ b) = YT.cntL a + YT.cntL b := by
    intro a b
    induction a with
    | nil => simp [YT.cntL]
    | cons t a ih => simp only [List.cons_append, YT.cntL, ih]; omega
  conv => rhs; rw [← List.take_append_drop k l, happ]
  omega
set_option maxRecDepth 100000 in
set_option maxHeartbeats 4000000 in
theorem types_any : ∀ (d : Nat) (T : YT), d ≤ 6 → typedF d T = true → ∀ (n₀ : Nat) (w : World), IsY n₀ w T → n₀ ≤ w.heap.size →
    Calls Tryz.prog 53 #[T.node.val] w fun e w' => e = .returned (.int .i64 T.cnt) ∧ Below w.heap.size w w' := by
  intro d
  induction d with
  | zero => intro T _ h; simp [typedF] at h
  | succ d ih =>
    intro T h6 hsh n₀ w hT hn
    have hcn := typedF_cnt (d + 1) T hsh hT
    have h96 : 9 ^ (d + 1) ≤ 9 ^ 6 := Nat.pow_le_pow_right (by omega) h6
    obtain ⟨⟨xk, xa, xl, xc⟩, kids⟩ := T
    dsimp only [YT.node, TNode.val]
    cases hT with
    | mk _ _ hlx hmx hcx hkx =>
    simp only at hlx hmx hcx
    simp only [typedF, Bool.and_eq_true, List.all_eq_true] at hsh
    simp only [YT.cnt] at hcn ⊢
    have hxl : (xl : Int) ≤ 140737488351232 := by omega
    have hcn' : YT.cntL kids + 1 ≤ 531441 := by omega
    have IH := Lib.hid (fun (c : YT) (hc : c ∈ kids) => ih c (by omega) (hsh.2 c hc))
    have HC := Lib.hid hcx
    have HK := Lib.hid hkx
    have HL := Lib.hid hlx
    have HN := Lib.hid hn
    have HM := Lib.hid hcn'
    clear ih hcx hkx hmx h6 hlx hn hsh hcn h96 hcn'
    have hq1 : (w.alloc (.cells #[.int .i64 xk, .slice xa xl xc] 27)).heap[w.heap.size]? = some (.cells #[.int .i64 xk, .slice xa xl xc] 27 (0, 0)) := World.alloc_heap_new w _
    have HX := Lib.hid hq1
    have hb1 : Below w.heap.size w (w.alloc (.cells #[.int .i64 xk, .slice xa xl xc] 27)) := (Below.refl _ _).alloc (Nat.le_refl _) _
    have HB := Lib.hid hb1
    clear hq1 hb1
    go_enter Tryz.func53, Tryz.ntmps53
    go_wp2
    go_loopw [3, 4] (fun m i wr => ∃ k : Nat, k ≤ xl ∧ i = .int .i64 k ∧ (∃ s : Nat, m = .int .i64 s ∧ s = YT.cntL (kids.take k) + 1) ∧ Below (w.alloc (.cells #[.int .i64 xk, .slice xa xl xc] 27)).heap.size (w.alloc (.cells #[.int .i64 xk, .slice xa xl xc] 27)) wr) (fun _ i _ => xl - (intOf i).toNat)
    case atStart => exact ⟨0, Nat.zero_le _, rfl, ⟨1, rfl, by simp [YT.cntL]⟩, Below.refl _ _⟩
    case round =>
      obtain ⟨k, hk, rfl, ⟨s, rfl, hs⟩, hb⟩ := hrel
      have hs1 : s ≤ 531441 := by have := YT.cntL_take_le kids k; have := HM.out; omega
      have HP := Lib.hid hs
      have HW := Lib.hid hb
      clear hs hb
      have HBW := Lib.hid (HB.out.trans (HW.out.mono HB.out.size))
      obtain ⟨⟨b0, b1⟩, _⟩ := cells2 ((HW.out.block _ (Array.getElem?_eq_some_iff.1 HX.out).1).trans HX.out)
      by_cases hlt : k < xl
      · have hkl : k < kids.length := by have := HL.out; omega
        obtain ⟨c, hcc⟩ : ∃ c, kids[k]? = some c := ⟨kids[k], by simp [hkl]⟩
        obtain ⟨b, off, rfl, hbb, e0, e1⟩ := HC.out k c hcc
        have hn := HN.out
        have f0 := ((HBW.out.mono hn).cell (p := ⟨b, off + k * 2, none⟩) hbb).trans e0
        have f1 := ((HBW.out.mono hn).cell (p := ⟨b, off + k * 2 + 1, none⟩) hbb).trans e1
        have hC := IH.out c (List.mem_of_getElem? hcc) n₀ wr ((HK.out c (List.mem_of_getElem? hcc)).bel (HBW.out.mono hn)) (by have := HBW.out.size; omega)
        have htk := YT.cntL_take hcc
        have hc2 : c.cnt ≤ 531441 := by have := YT.cntL_take_le kids (k + 1); have := HM.out; omega
        obtain ⟨r, hr⟩ : ∃ r, c.cnt = r := ⟨_, rfl⟩
        rw [hr] at hC htk hc2
        have hC' : Calls Tryz.prog 53 #[.agg #[.int .i64 c.node.k, .slice c.node.a c.node.len c.node.cap]] wr fun e W' =>
            e = .returned (.int .i64 r) ∧ Hid (Below (w.alloc (.cells #[.int .i64 xk, .slice (some ⟨b, off, none⟩) xl xc] 27)).heap.size (w.alloc (.cells #[.int .i64 xk, .slice (some ⟨b, off, none⟩) xl xc] 27)) W') :=
          hC.mono fun e W' h => ⟨h.1, Lib.hid (HW.out.trans (h.2.mono HW.out.size))⟩
        have HT := Lib.hid htk
        clear hC hr hcc hbb e0 e1 hkl hn htk
        go_wp2_with (go_at_call 53; refine hC'.mono ?_; clear hC'; rintro e W4 ⟨rfl, H4⟩)
        go_roundw
        case rel => exact ⟨k + 1, by omega, by go_num, ⟨s + r, by go_num, by have := HT.out; have := HP.out; omega⟩, H4.out⟩
        case measure => simp [intOf]; omega
      · have hks : kids.length ≤ k := by have := HL.out; omega
        have HK2 := Lib.hid hks
        clear hks
        go_wp2
        go_ret
        refine ⟨ret_int ?_, HBW.out⟩
        have h2 := HP.out
        rw [List.take_of_length_le HK2.out] at h2
        omega

set_option maxRecDepth 100000 in
set_option maxHeartbeats 2000000 in
theorem rightType_any (T : YT) (n₀ : Nat) (w : World) (hT : IsY n₀ w T) (hS : ∀ x ∈ T.pre 1, x.2.len ≤ maxLen) (hn : n₀ ≤ w.heap.size) :
    Calls Tryz.prog 24 #[T.node.val] w fun e w' => e = .returned (.bool (validY T)) ∧ Below w.heap.size w w' := by
  have hp := tsizeF_pos T
  obtain ⟨n, hnn⟩ : ∃ n, tsizeF T = n := ⟨_, rfl⟩
  obtain ⟨⟨xk, xa, xl, xc⟩, kids⟩ := T
  have hbV : Below w.heap.size w (w.alloc (.cells #[.int .i64 xk, .slice xa xl xc] 27)) := (Below.refl _ _).alloc (Nat.le_refl _) _
  have hcall := tmeasure_any _ _ ((hT.bel (hbV.mono hn)).more (by have := hbV.size; omega)) hS
  rw [hnn] at hcall hp
  rw [← hp]
  dsimp only [YT.node, TNode.val] at hcall ⊢
  clear hT hS hn hnn hp
  have HB := Lib.hid hbV
  clear hbV
  go_enter Tryz.func24, Tryz.ntmps24
  go_wp2_with (go_at_call 48; refine hcall.mono ?_; clear hcall; rintro e w' ⟨rfl, hb⟩)
  go_ret
  exact ⟨rfl, HB.out.trans (hb.mono HB.out.size)⟩
end Go.Proofs.YtofboalgbgipoaaGreatDoor
