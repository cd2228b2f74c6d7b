/- The least value of a type, as trees: it is of the type, valid, and ahead of all others. -/
import Derived.Test.YtofboalgbgipoaaGreatDoorMat
import Derived.Test.YtofboalgbgipoaaGreatDoorValo
import Derived.Test.YtofboalgbgipoaaGreatDoorValr
set_option linter.all false
namespace Go.Proofs.YtofboalgbgipoaaGreatDoor
open Go.RowKit Go.Shelf

mutual
def TT.toY : TT → YT
  | .mk k a len cap l => .mk ⟨k, a, len, cap⟩ (TT.toYL l)
def TT.toYL : List TT → List YT
  | [] => []
  | t :: l => TT.toY t :: TT.toYL l
end
theorem TT.toYL_get : ∀ {l : List TT} {i : Nat} {c : YT}, (TT.toYL l)[i]? = some c → ∃ t, l[i]? = some t ∧ c = t.toY
  | [], i, c, h => by simp [TT.toYL] at h
  | t :: l, 0, c, h => by simp [TT.toYL] at h; exact ⟨t, by simp, h.symm⟩
  | t :: l, i + 1, c, h => by simp [TT.toYL] at h; simpa using TT.toYL_get h
theorem TT.toYL_len : ∀ (l : List TT), (TT.toYL l).length = l.length
  | [] => rfl
  | t :: l => by simp [TT.toYL, TT.toYL_len l]
theorem TT.toYL_mem : ∀ {l : List TT} {c : YT}, c ∈ TT.toYL l → ∃ t ∈ l, c = t.toY
  | t :: l, c, h => by
    simp only [TT.toYL, List.mem_cons] at h
    rcases h with rfl | h
    · exact ⟨t, by simp, rfl⟩
    · obtain ⟨u, hu, e⟩ := TT.toYL_mem h
      exact ⟨u, by simp [hu], e⟩
theorem TT.node_val (T : TT) : T.toY.node.val = .agg #[.int .i64 T.k, T.row] := by cases T; rfl
theorem IsTT.isY {S : Nat → Prop} {W : World} {n₀ : Nat} (hS : ∀ b, S b → b < n₀) {T : TT} (h : IsTT S W T) : IsY n₀ W T.toY := by
  induction h with
  | mk k a len cap l hlen hm hc _ ih =>
    simp only [TT.toY]
    refine .mk _ _ (by rw [TT.toYL_len]; exact hlen) (by show len * 16 ≤ _; omega) (fun i c hi => ?_) (fun c hc' => ?_)
    · obtain ⟨t, ht, rfl⟩ := TT.toYL_get hi
      obtain ⟨b, ha, hb, h0, h1⟩ := hc i t ht
      obtain ⟨tk, ta, tl, tc, tm⟩ := t
      exact ⟨b, 0, ha, hS b hb, by rw [Nat.zero_add]; exact h0, by rw [Nat.zero_add]; exact h1⟩
    · obtain ⟨t, ht, rfl⟩ := TT.toYL_mem hc'
      exact ih t ht
theorem TT.ok_typed {S : Nat → Prop} {W : World} : ∀ (d : Nat) (T : TT), T.ok d → IsTT S W T → typedF d T.toY = true
  | 0, T, h, _ => by cases h
  | d + 1, .mk k a len cap l, h, hT => by
    cases hT with
    | mk _ _ _ _ _ hlen hm hc hk =>
    have key : (∀ c ∈ l, c.ok d) → (TT.toYL l).all (typedF d) = true := fun hh => List.all_eq_true.2 fun c hc' => by
      obtain ⟨t, ht, rfl⟩ := TT.toYL_mem hc'
      exact TT.ok_typed d t (hh t ht) (hk t ht)
    simp only [TT.toY, typedF, Bool.and_eq_true]
    cases h with
    | int => exact ⟨by simp [tokNode], by simp [TT.toYL]⟩
    | text => exact ⟨by simp [tokNode], by simp [TT.toYL]⟩
    | tuple _ _ _ _ _ h hk' => exact ⟨by simp [tokNode]; omega, key hk'⟩
    | sum _ _ _ _ _ h h3 hk' => exact ⟨by simp [tokNode]; omega, key hk'⟩
theorem typedF_mono : ∀ (d e : Nat) (T : YT), d ≤ e → typedF d T = true → typedF e T = true
  | 0, e, T, _, h => by simp [typedF] at h
  | d + 1, 0, T, h, _ => by omega
  | d + 1, e + 1, .mk x l, h, ht => by
    simp only [typedF, Bool.and_eq_true, List.all_eq_true] at ht ⊢
    exact ⟨ht.1, fun c hc => typedF_mono d e c (by omega) (ht.2 c hc)⟩
theorem TT.ok_cnt : ∀ (d : Nat) (T : TT), T.ok d → T.toY.cnt ≤ costM d
  | 0, T, h => by cases h
  | d + 1, .mk k a len cap l, h => by
    have key : l.length ≤ 3 → (∀ c ∈ l, c.ok d) → YT.cntL (TT.toYL l) ≤ 3 * costM d := fun h3 hh => by
      have h1 := YT.cntL_le (l := TT.toYL l) (N := costM d) (fun c hc' => by
        obtain ⟨t, ht, rfl⟩ := TT.toYL_mem hc'
        exact TT.ok_cnt d t (hh t ht))
      rw [TT.toYL_len] at h1
      have h2 : l.length * costM d ≤ 3 * costM d := Nat.mul_le_mul_right _ h3
      omega
    simp only [TT.toY, YT.cnt, costM]
    cases h with
    | int => simp [TT.toYL, YT.cntL]
    | text => simp [TT.toYL, YT.cntL]
    | tuple _ _ _ _ _ h hk' => have := key h hk'; omega
    | sum _ _ _ _ _ h h3 hk' => have := key h3 hk'; omega
theorem TT.ok_valid {S : Nat → Prop} {W : World} {T : TT} (h : T.ok 3) (hT : IsTT S W T) : validY T.toY = true := by
  have h1 := typedF_mono 3 6 _ (by omega) (TT.ok_typed 3 T h hT)
  have h2 := TT.ok_cnt 3 T h
  simp only [costM] at h2
  simp only [validY, h1, Bool.true_and, decide_eq_true_eq]
  omega
theorem validY_kid {x : TNode} {l : List YT} (h : validY (.mk x l) = true) : ∀ c ∈ l, validY c = true := by
  intro c hc
  simp only [validY, Bool.and_eq_true, decide_eq_true_eq] at h ⊢
  obtain ⟨h1, h2⟩ := h
  simp only [typedF, Bool.and_eq_true, List.all_eq_true] at h1
  simp only [YT.cnt] at h2
  refine ⟨typedF_mono 5 6 c (by omega) (h1.2 c hc), ?_⟩
  have : ∀ {m : List YT}, c ∈ m → c.cnt ≤ YT.cntL m := by
    intro m
    induction m with
    | nil => intro h; simp at h
    | cons t m ih =>
      intro h
      simp only [YT.cntL]
      rcases List.mem_cons.1 h with rfl | h
      · omega
      · have := ih h; omega
  have h3 := this hc
  omega

/-- It is the least value of the type. -/
inductive LeastOf : LT → YT → Prop
  | int (x : Node) (y : TNode) (m : List YT) (hy : y.k = 0) (hk : x.k = 0) (hn : x.n = -2147483648) (hs : x.s = ByteArray.empty) (hl : x.len = 0) : LeastOf (.mk x []) (.mk y m)
  | text (x : Node) (y : TNode) (m : List YT) (hy : y.k = 1) (hk : x.k = 1) (hn : x.n = 0) (hs : x.s = ByteArray.empty) (hl : x.len = 0) : LeastOf (.mk x []) (.mk y m)
  | sum (x : Node) (y : TNode) (c : LT) (t : YT) (m : List YT) (hy : y.k = 3) (hk : x.k = 3) (hn : x.n = 0) (hs : x.s = ByteArray.empty) (hl : x.len = 1) (hc : LeastOf c t) : LeastOf (.mk x [c]) (.mk y (t :: m))
  | tuple (x : Node) (y : TNode) (l : List LT) (m : List YT) (hy : y.k = 2) (hk : x.k = 2) (hn : x.n = 0) (hs : x.s = ByteArray.empty) (hl : x.len = l.length) (hlm : l.length = m.length)
      (hc : ∀ (i : Nat) (c : LT) (t : YT), l[i]? = some c → m[i]? = some t → LeastOf c t) : LeastOf (.mk x l) (.mk y m)
theorem other {α β : Type} {l : List α} {m : List β} {c : α} (h : l.length = m.length) (hc : c ∈ l) : ∃ (i : Nat) (t : β), l[i]? = some c ∧ m[i]? = some t ∧ t ∈ m := by
  obtain ⟨i, hi⟩ := List.mem_iff_getElem?.1 hc
  have hlt := (List.getElem?_eq_some_iff.1 hi).1
  exact ⟨i, m[i]'(by omega), hi, by simp [show i < m.length by omega], List.getElem_mem _⟩
theorem IsY.parts {n₀ : Nat} {W : World} {x : TNode} {l : List YT} (h : IsY n₀ W (.mk x l)) : x.len = l.length ∧ ∀ c ∈ l, IsY n₀ W c := by
  cases h with
  | mk _ _ h1 _ _ h2 => exact ⟨h1, h2⟩
theorem cntL_le2 : ∀ {l : List LT} {m : List YT}, l.length = m.length → (∀ (i : Nat) (c : LT) (t : YT), l[i]? = some c → m[i]? = some t → c.cnt ≤ t.cnt) → LT.cntL l ≤ YT.cntL m
  | [], [], _, _ => by simp [LT.cntL, YT.cntL]
  | [], _ :: _, h, _ => by simp at h
  | _ :: _, [], h, _ => by simp at h
  | c :: l, t :: m, h, hh => by
    have h0 := hh 0 c t (by simp) (by simp)
    have h1 := cntL_le2 (l := l) (m := m) (by simpa using h) (fun i c t h1 h2 => hh (i + 1) c t (by simpa using h1) (by simpa using h2))
    simp only [LT.cntL, YT.cntL]
    omega
/-- The least value is valid. -/
theorem LeastOf.ok {n₀ : Nat} {W : World} {V : LT} {T : YT} (h : LeastOf V T) : ∀ d, typedF d T = true → IsY n₀ W T → OkV V ∧ V.ht ≤ d ∧ V.cnt ≤ T.cnt := by
  induction h with
  | int x y m hy hk hn hs hl =>
    intro d hd _
    rcases d with _ | d
    · simp [typedF] at hd
    · exact ⟨.mk _ _ (by rw [hk, hn, hs, hl]; decide) (by rw [hs]; decide) (by omega) (by simp), by simp [LT.ht, LT.htL], by simp [LT.cnt, LT.cntL, YT.cnt]⟩
  | text x y m hy hk hn hs hl =>
    intro d hd _
    rcases d with _ | d
    · simp [typedF] at hd
    · exact ⟨.mk _ _ (by rw [hk, hn, hs, hl]; decide) (by rw [hs]; decide) (by omega) (by simp), by simp [LT.ht, LT.htL], by simp [LT.cnt, LT.cntL, YT.cnt]⟩
  | sum x y c t m hy hk hn hs hl _ ih =>
    intro d hd hY
    rcases d with _ | d
    · simp [typedF] at hd
    · simp only [typedF, Bool.and_eq_true, List.all_eq_true] at hd
      obtain ⟨h1, h2, h3⟩ := ih d (hd.2 t (by simp)) (hY.parts.2 t (by simp))
      exact ⟨.mk _ _ (by rw [hk, hn, hs, hl]; decide) (by rw [hs]; decide) (by omega) (by simpa using h1), by simp only [LT.ht, LT.htL]; omega, by simp only [LT.cnt, LT.cntL, YT.cnt, YT.cntL]; omega⟩
  | tuple x y l m hy hk hn hs hl hlm _ ih =>
    intro d hd hY
    rcases d with _ | d
    · simp [typedF] at hd
    · simp only [typedF, Bool.and_eq_true, List.all_eq_true] at hd
      have h8 := tokNode_small hd.1
      have hyl := hY.parts.1
      have hk' : ∀ c ∈ l, OkV c ∧ c.ht ≤ d := fun c hc => by
        obtain ⟨i, t, h1, h2, h3⟩ := other hlm hc
        have := ih i c t h1 h2 d (hd.2 t h3) (hY.parts.2 t h3)
        exact ⟨this.1, this.2.1⟩
      have hn' : okNode x.k x.n x.s.data.toList x.len = true := by
        rw [hk, hn, hs, hl]
        simp [okNode]
        omega
      refine ⟨.mk _ _ hn' (by rw [hs]; decide) (by omega) (fun c hc => (hk' c hc).1), ?_, ?_⟩
      · have := LT.htL_le (l := l) (N := d) (fun c hc => (hk' c hc).2)
        simp only [LT.ht]; omega
      · have := cntL_le2 hlm (fun i c t h1 h2 => (ih i c t h1 h2 d (hd.2 t (List.mem_of_getElem? h2)) (hY.parts.2 t (List.mem_of_getElem? h2))).2.2)
        simp only [LT.cnt, YT.cnt]; omega
/-- The least value is of the type. -/
theorem matchAll_of : ∀ {l : List LT} {m : List YT}, l.length = m.length → (∀ (i : Nat) (c : LT) (t : YT), l[i]? = some c → m[i]? = some t → matchF c t = true) → matchAll l m = true
  | [], [], _, _ => rfl
  | [], _ :: _, h, _ => by simp at h
  | _ :: _, [], h, _ => by simp at h
  | c :: l, t :: m, h, hh => by
    have h0 := hh 0 c t (by simp) (by simp)
    have h1 := matchAll_of (l := l) (m := m) (by simpa using h) (fun i c t h1 h2 => hh (i + 1) c t (by simpa using h1) (by simpa using h2))
    simp only [matchAll, h0, h1, Bool.and_self]
theorem LeastOf.fits {n₀ : Nat} {W : World} {V : LT} {T : YT} (h : LeastOf V T) : IsY n₀ W T → matchF V T = true := by
  induction h with
  | int x y m hy hk hn hs hl => intro _; simp [matchF, hy, LT.node, hk]
  | text x y m hy hk hn hs hl => intro _; simp [matchF, hy, LT.node, hk]
  | sum x y c t m hy hk hn hs hl _ ih =>
    intro hY
    have h1 := hY.parts.1
    have h2 := ih (hY.parts.2 t (by simp))
    simp only [List.length_cons] at h1
    simp [matchF, hy, LT.node, LT.kids, hk, hn, matchAt, h2]
    omega
  | tuple x y l m hy hk hn hs hl hlm _ ih =>
    intro hY
    have h1 := hY.parts.1
    have h2 := matchAll_of hlm (fun i c t h1 h2 => ih i c t h1 h2 (hY.parts.2 t (List.mem_of_getElem? h2)))
    have hlen : x.len = y.len := by omega
    simp [matchF, hy, LT.node, LT.kids, hk, h2, hlen]
theorem lex_le {a b : Int} (h : a ≤ 0) (h' : b ≤ 0) : lex a b ≤ 0 := by unfold lex; split <;> omega
theorem lex_lt {a b : Int} (h : a < 0) : lex a b ≤ 0 := by unfold lex; split <;> omega
theorem cmpI_le {x y : Int} (h : x ≤ y) : Lib.compareInt x y ≤ 0 := by unfold Lib.compareInt; repeat' split <;> omega
theorem cmpI_lt {x y : Int} (h : x < y) : Lib.compareInt x y < 0 := by unfold Lib.compareInt; repeat' split <;> omega
theorem cmpB_nil (m : List UInt8) : Lib.compareBytes [] m ≤ 0 := by cases m <;> simp [Lib.compareBytes]
theorem ordL_le : ∀ {l m : List LT}, l.length = m.length → (∀ (i : Nat) (c d : LT), l[i]? = some c → m[i]? = some d → ordF c d ≤ 0) → ordL l m ≤ 0
  | [], [], _, _ => by simp [ordL]
  | [], _ :: _, h, _ => by simp at h
  | _ :: _, [], h, _ => by simp at h
  | c :: l, d :: m, h, hh => by
    have h0 := hh 0 c d (by simp) (by simp)
    have h1 := ordL_le (l := l) (m := m) (by simpa using h) (fun i c t h1 h2 => hh (i + 1) c t (by simpa using h1) (by simpa using h2))
    simp only [ordL]
    exact lex_le h0 h1
theorem empty_bytes : ByteArray.empty.data.toList = ([] : List UInt8) := rfl
theorem okNode_word {n : Int} {s : List UInt8} {len : Nat} (h : okNode 0 n s len = true) : -2147483648 ≤ n := by
  simp [okNode] at h; omega
theorem okNode_n {k n : Int} {s : List UInt8} {len : Nat} (hk : k ≠ 0) (h : okNode k n s len = true) : 0 ≤ n := by
  unfold okNode at h
  rw [if_neg hk] at h
  repeat' split at h
  all_goals first | (simp only [Bool.and_eq_true, decide_eq_true_eq] at h; omega) | cases h
theorem OkV.part {x : Node} {l : List LT} (h : OkV (.mk x l)) : okNode x.k x.n x.s.data.toList x.len = true ∧ ∀ c ∈ l, OkV c := by
  cases h with
  | mk _ _ h1 h2 h3 h4 => exact ⟨h1, h4⟩
/-- No value of the type is ahead of the least one. -/
theorem LeastOf.le {L : LT} {Y : YT} (h : LeastOf L Y) : ∀ (T : TT) (V : LT), Y = T.toY → OfT V T → OkV V → ordF L V ≤ 0 := by
  induction h with
  | int x y m hy hk hn hs hl =>
    intro T V e hO hV
    obtain ⟨tk, ta, tl, tc, tm⟩ := T
    simp only [TT.toY, YT.mk.injEq] at e
    obtain ⟨rfl, -⟩ := e
    simp only at hy
    subst hy
    cases hO with
    | int v l _ _ _ _ hvk =>
      have h1 := hV.part.1
      rw [hvk] at h1
      have h2 := okNode_word h1
      simp only [ordF]
      refine lex_le (cmpI_le (by omega)) (lex_le (cmpI_le (by omega)) (lex_le (by rw [hs, empty_bytes]; exact cmpB_nil _) ?_))
      cases l <;> simp [ordL]
  | text x y m hy hk hn hs hl =>
    intro T V e hO hV
    obtain ⟨tk, ta, tl, tc, tm⟩ := T
    simp only [TT.toY, YT.mk.injEq] at e
    obtain ⟨rfl, -⟩ := e
    simp only at hy
    subst hy
    cases hO with
    | text v l _ _ _ _ hvk =>
      have h2 := okNode_n (by omega) hV.part.1
      simp only [ordF]
      refine lex_le (cmpI_le (by omega)) (lex_le (cmpI_le (by omega)) (lex_le (by rw [hs, empty_bytes]; exact cmpB_nil _) ?_))
      cases l <;> simp [ordL]
  | sum x y c t m hy hk hn hs hl _ ih =>
    intro T V e hO hV
    obtain ⟨tk, ta, tl, tc, tm⟩ := T
    simp only [TT.toY, YT.mk.injEq] at e
    obtain ⟨rfl, e⟩ := e
    simp only at hy
    subst hy
    cases hO with
    | sum v d _ _ _ _ u n hvk hvn hu hd =>
      simp only [ordF]
      refine lex_le (cmpI_le (by omega)) ?_
      by_cases h0 : n = 0
      · subst h0
        refine lex_le (cmpI_le (by omega)) (lex_le (by rw [hs, empty_bytes]; exact cmpB_nil _) ?_)
        cases tm with
        | nil => simp [TT.toYL] at e
        | cons u' tm =>
          simp only [TT.toYL, List.cons.injEq] at e
          simp at hu
          subst hu
          have := ih u' d e.1 hd (hV.part.2 d (by simp))
          simp only [ordL]
          exact lex_le this (by omega)
      · exact lex_lt (cmpI_lt (by omega))
  | tuple x y l m hy hk hn hs hl hlm _ ih =>
    intro T V e hO hV
    obtain ⟨tk, ta, tl, tc, tm⟩ := T
    simp only [TT.toY, YT.mk.injEq] at e
    obtain ⟨rfl, e⟩ := e
    simp only at hy
    subst hy
    subst e
    rw [TT.toYL_len] at hlm
    cases hO with
    | tuple v l' _ _ _ _ hvk hl' hh =>
      have h2 := okNode_n (by omega) hV.part.1
      simp only [ordF]
      refine lex_le (cmpI_le (by omega)) (lex_le (cmpI_le (by omega)) (lex_le (by rw [hs, empty_bytes]; exact cmpB_nil _) (ordL_le (by omega) (fun i c d h1 h2 => ?_))))
      have hi := (List.getElem?_eq_some_iff.1 h1).1
      have hi2 : i < tm.length := by omega
      have h3 : tm[i]? = some tm[i] := by simp [hi2]
      have h4 : (TT.toYL tm)[i]? = some (tm[i]).toY := by
        have h5 : i < (TT.toYL tm).length := by rw [TT.toYL_len]; exact hi2
        have h6 : (TT.toYL tm)[i]? = some (TT.toYL tm)[i] := by simp [h5]
        obtain ⟨u, h7, h8⟩ := TT.toYL_get h6
        rw [h3] at h7
        cases h7
        rw [h6, h8]
      exact ih i c _ h1 h4 tm[i] d rfl (hh i d _ h2 h3) (hV.part.2 d (List.mem_of_getElem? h2))
theorem sameL_of : ∀ {l m : List LT}, l.length = m.length → (∀ (i : Nat) (c d : LT), l[i]? = some c → m[i]? = some d → sameF c d = true) → sameL l m = true
  | [], [], _, _ => rfl
  | [], _ :: _, h, _ => by simp at h
  | _ :: _, [], h, _ => by simp at h
  | c :: l, d :: m, h, hh => by
    have h0 := hh 0 c d (by simp) (by simp)
    have h1 := sameL_of (l := l) (m := m) (by simpa using h) (fun i c t h1 h2 => hh (i + 1) c t (by simpa using h1) (by simpa using h2))
    simp only [sameL, h0, h1, Bool.and_self]
/-- There is one least value. -/
theorem LeastOf.same {A : LT} {Y : YT} (h : LeastOf A Y) : ∀ B, LeastOf B Y → sameF A B = true := by
  induction h with
  | int x y m hy hk hn hs hl =>
    intro B h
    cases h with
    | int x' _ _ hy' hk' hn' hs' hl' => simp [sameF, sameL, hk, hk', hn, hn', hs, hs']
    | text _ _ _ hy' => omega
    | sum _ _ _ _ _ hy' => omega
    | tuple _ _ _ _ hy' => omega
  | text x y m hy hk hn hs hl =>
    intro B h
    cases h with
    | text x' _ _ hy' hk' hn' hs' hl' => simp [sameF, sameL, hk, hk', hn, hn', hs, hs']
    | int _ _ _ hy' => omega
    | sum _ _ _ _ _ hy' => omega
    | tuple _ _ _ _ hy' => omega
  | sum x y c t m hy hk hn hs hl _ ih =>
    intro B h
    cases h with
    | sum x' _ c' _ _ hy' hk' hn' hs' hl' hc' => simp [sameF, sameL, hk, hk', hn, hn', hs, hs', ih c' hc']
    | int _ _ _ hy' => omega
    | text _ _ _ hy' => omega
    | tuple _ _ _ _ hy' => omega
  | tuple x y l m hy hk hn hs hl hlm _ ih =>
    intro B h
    cases h with
    | tuple x' _ l' _ hy' hk' hn' hs' hl' hlm' hc' =>
      have : sameL l l' = true := sameL_of (by omega) (fun i c d h1 h2 => by
        have hi := (List.getElem?_eq_some_iff.1 h1).1
        have hi2 : i < m.length := by omega
        have h3 : m[i]? = some m[i] := by simp [hi2]
        exact ih i c _ h1 h3 d (hc' i d _ h2 h3))
      simp [sameF, hk, hk', hn, hn', hs, hs', this]
    | int _ _ _ hy' => omega
    | text _ _ _ hy' => omega
    | sum _ _ _ _ _ hy' => omega
end Go.Proofs.YtofboalgbgipoaaGreatDoor
