/- Values that numbers make: tuples. -/
import Derived.Test.YtofboalgbgipoaaGreatDoorValk
set_option linter.all false
namespace Go.Proofs.YtofboalgbgipoaaGreatDoor
open Go.RowKit Go.Shelf
attribute [local go_sem] Oper.semAt_some

theorem RelV.start (W3 : World) (P : LT → Prop) (x0 x1 : Int) (x2 : ByteArray) : RelV W3.heap.size (W3.alloc (.cells #[.int .i64 x0, .int .i64 x1, .string x2, .slice none 0 0] 24)) P x0 x1 x2 0 (.slice none 0 0) [] (W3.alloc (.cells #[.int .i64 x0, .int .i64 x1, .string x2, .slice none 0 0] 24)) :=
  ⟨rfl, ⟨rfl, .inl ⟨rfl, rfl⟩⟩, World.alloc_heap_new W3 _, Below.refl _ _, fun c hc => by simp at hc⟩
/-- Values are of types, one by one. -/
def OfL (l : List LT) (m : List TT) : Prop := ∀ (i : Nat) (c : LT) (t : TT), l[i]? = some c → m[i]? = some t → OfT c t
theorem OfL.snoc {l : List LT} {m : List TT} {k : Nat} {c : LT} {t : TT} (h : OfL l m) (hk : l.length = k) (ht : m[k]? = some t) (hc : OfT c t) : OfL (l ++ [c]) m := by
  intro i c' t' h1 h2
  by_cases hi : i < l.length
  · rw [List.getElem?_append_left hi] at h1; exact h i c' t' h1 h2
  · have hlt := (List.getElem?_eq_some_iff.1 h1).1
    simp only [List.length_append, List.length_cons, List.length_nil] at hlt
    obtain rfl : i = k := by omega
    rw [List.getElem?_append_right (by omega)] at h1
    rw [ht] at h2
    cases h2
    simp [hk] at h1
    subst h1
    exact hc
/-- The value that is handed on: a tuple. -/
theorem tupFin {w W4 W : World} {ta : Option Addr} {tn tc : Nat} {m : List TT} {B R d k : Nat} {va : Option Addr} {vc : Nat} {kids : List LT} {a' b' c' d' : Value} (h : RelV B W4 (Fine d) 2 0 ByteArray.empty k (.slice va k vc) kids W) (hk : k ≤ 3) (hO : OfL kids m) (hm : m.length = k) (hw4 : Below w.heap.size w W4) (hR : w.heap.size ≤ R) (hRB : R < B) :
    IsV (fun b => w.heap.size ≤ b ∧ b < ((((W.setCell ⟨R, 0, none⟩ a').setCell ⟨R, 1, none⟩ b').setCell ⟨R, 2, none⟩ c').setCell ⟨R, 3, none⟩ d').heap.size) ((((W.setCell ⟨R, 0, none⟩ a').setCell ⟨R, 1, none⟩ b').setCell ⟨R, 2, none⟩ c').setCell ⟨R, 3, none⟩ d') (.mk ⟨2, 0, ByteArray.empty, va, k, vc⟩ kids) ∧
    FineT (d + 1) (.mk 2 ta tn tc m) (.mk ⟨2, 0, ByteArray.empty, va, k, vc⟩ kids) ∧ Below w.heap.size w ((((W.setCell ⟨R, 0, none⟩ a').setCell ⟨R, 1, none⟩ b').setCell ⟨R, 2, none⟩ c').setCell ⟨R, 3, none⟩ d') := by
  have hl := h.len
  have q1 : ∀ b, (B + 1 ≤ b ∧ b < W.heap.size) → w.heap.size ≤ b ∧ b < ((((W.setCell ⟨R, 0, none⟩ a').setCell ⟨R, 1, none⟩ b').setCell ⟨R, 2, none⟩ c').setCell ⟨R, 3, none⟩ d').heap.size := fun b hb => ⟨by omega, by rw [size4]; omega⟩
  refine ⟨(h.isV (by omega) (by simp [maxLen])).kept q1 (fun b hb _ => heap4 (by omega)), ⟨Fine.node d _ _ (by omega) (by simp [okNode]; omega) (by simp) (by show k ≤ 8; omega) (fun c hc => (h.kids c hc).2), .tuple _ _ _ _ _ _ rfl (by omega) hO⟩, below4 (hw4.trans (h.bel.mono (by omega))) hR⟩

set_option maxRecDepth 100000 in
set_option maxHeartbeats 1000000 in
theorem Made_tuple (n₀ : Nat) (a : Option Addr) (len cap : Nat) (l : List Int) (d : Nat) (S : Nat → Prop) (ta : Option Addr) (tn tc : Nat) (kids : List TT) (at_ : Int) (w : World) (h0 : 0 ≤ at_) (h1 : at_ + costN (d + 1) ≤ 1000000) (hl : IsInts n₀ w a len l) (hn : n₀ ≤ w.heap.size)
    (hk3 : kids.length ≤ 3) (hS : ∀ b, S b → b < w.heap.size) (hTT : IsTT S w (.mk 2 ta tn tc kids))
    (ih : ∀ c ∈ kids, ∀ q W, at_ + 1 ≤ q → q ≤ at_ + 1 + 2 * costN d → Below w.heap.size w W → Calls Tryz.prog 43 #[.agg #[.int .i64 c.k, c.row], .slice a len cap, .int .i64 q] W (MadeR d c q W)) :
    Calls Tryz.prog 43 #[.agg #[.int .i64 2, .slice ta tn tc], .slice a len cap, .int .i64 at_] w (MadeR (d + 1) (.mk 2 ta tn tc kids) at_ w) := by
  obtain ⟨W2, hW2⟩ : ∃ W2, (w.alloc (.cells #[.int .i64 2, .slice ta tn tc] 27)).alloc (.cells #[.int .i64 0, .int .i64 0, .string ByteArray.empty, .slice none 0 0] 24) = W2 := ⟨_, rfl⟩
  obtain ⟨hs2, hb2, typ2, res2⟩ := begins _ _ _ _ w W2 hW2
  have hN := Nth_any n₀ a len cap l at_ W2 (hl.bel (hb2.mono hn))
  cases hTT with
  | mk _ _ _ _ _ hlen hm hc hk =>
    have hU : Calls Tryz.prog 38 #[.slice none 0 0] W2 fun e W3 => e = .returned (.agg #[.int .i64 2, .int .i64 0, .string ByteArray.empty, .slice none 0 0]) ∧ Hid (Below W2.heap.size W2 W3) := (Tuple_any none 0 0 W2).mono fun e W3 h => ⟨h.1, Lib.hid h.2⟩
    have H1 := Lib.hid h1
    have H2 := Lib.hid hs2
    have HB := Lib.hid hb2
    have HR := Lib.hid res2
    have HY := Lib.hid typ2
    have HI := Lib.hid ih
    have HC := Lib.hid hc
    have HS := Lib.hid hS
    have hl3 : tn ≤ 3 := by omega
    have HLen := Lib.hid hlen
    rw [← hW2] at hN hU
    have HW := Lib.hid hW2
    have ha1 : at_ ≤ 1000000 := by omega
    clear hW2 hl hb2 res2 typ2 ih hc hk hs2 hm h1 hS hlen hk3
    go_enter Tryz.func43, Tryz.ntmps43
    go_wp2_with (first | (go_at_call 60; refine hN.mono ?_; clear hN; rintro e w' ⟨rfl, rfl⟩) | (go_at_call 38; refine hU.mono ?_; clear hU; rintro e W3 ⟨rfl, H3⟩; rw [HW.out] at H3))
    have hB3 := H3.out
    have hs3 := hB3.size
    have hs2 := H2.out
    obtain ⟨W4, hW4⟩ : ∃ W4, W3.alloc (.cells #[.int .i64 2, .int .i64 0, .string ByteArray.empty, .slice none 0 0] 24) = W4 := ⟨_, rfl⟩
    have hw4 : Below w.heap.size w W4 := by rw [← hW4]; exact (HB.out.trans (hB3.mono HB.out.size)).alloc (by have := HB.out.size; omega) _
    have hst := RelV.start W3 (Fine d) 2 0 ByteArray.empty
    rw [hW4] at hst
    have hs4 : W4.heap.size = W3.heap.size + 1 := by rw [← hW4]; simp
    have typ4 : W4.heap[w.heap.size]? = some (.cells #[.int .i64 2, .slice ta tn tc] 27 (0, 0)) := by rw [← hW4]; exact resKept HY.out hB3 _
    have res4 : W4.heap[w.heap.size + 1]? = some (.cells #[.int .i64 0, .int .i64 0, .string ByteArray.empty, .slice none 0 0] 24 (0, 0)) := by rw [← hW4]; exact resKept HR.out hB3 _
    rw [hW4]
    have HT4 := Lib.hid typ4
    have HR4 := Lib.hid res4
    have HB4 := Lib.hid hw4
    have HZ := Lib.hid (And.intro hs2 (And.intro hs3 hs4))
    clear hW4 typ4 res4 hw4 hB3
    go_loopw [2, 15] (fun p i wr => ∃ (k : Nat) (q : Int) (vs : List LT) (v : Value), k ≤ tn ∧ i = .int .i64 k ∧ p = .int .i64 q ∧ at_ + 1 ≤ q ∧ q ≤ at_ + 1 + k * costN d ∧ RelV W3.heap.size W4 (Fine d) 2 0 ByteArray.empty k v vs wr ∧ Hid (OfL vs kids)) (fun _ i _ => tn - (intOf i).toNat)
    case atStart => exact ⟨0, _, [], .slice none 0 0, Nat.zero_le _, rfl, rfl, by omega, by omega, hst, Lib.hid (fun i c t h => by simp at h)⟩
    case round =>
      obtain ⟨k, q, vs, v, hk, rfl, rfl, hq0, hq1, R, HOL⟩ := hrel
      obtain ⟨va, vc, rfl⟩ := isSlice R.own
      clear hst
      have t1 : wr.cell? ⟨w.heap.size, 1, none⟩ = some (.slice ta tn tc) := by simp [World.cell?, (R.bel.block w.heap.size (by omega)).trans HT4.out]
      by_cases hlt : k < tn
      · have hkl : k < kids.length := by have := HLen.out; omega
        obtain ⟨c, hcc⟩ : ∃ c, kids[k]? = some c := ⟨kids[k], by simp [hkl]⟩
        obtain ⟨b, rfl, hb, e0, e1⟩ := HC.out k c hcc
        have hbw := HS.out b hb
        have hbr : Below w.heap.size w wr := HB4.out.trans (R.bel.mono (by omega))
        have f0 := (hbr.cell (p := ⟨b, k * 2, none⟩) hbw).trans e0
        have f1 := (hbr.cell (p := ⟨b, k * 2 + 1, none⟩) hbw).trans e1
        have hmul : (k : Int) * costN d ≤ 2 * costN d := Int.mul_le_mul_of_nonneg_right (by omega) (by omega)
        have hI := HI.out c (List.mem_of_getElem? hcc) q wr hq0 (by omega) hbr
        have HCC := Lib.hid hcc
        obtain ⟨ck, ca, cl, cc, ckids⟩ := c
        simp only [TT.k, TT.row, TT.a, TT.len, TT.cap] at f0 f1 hI
        have hI' : Calls Tryz.prog 43 #[.agg #[.int .i64 ck, .slice ca cl cc], .slice a len cap, .int .i64 q] wr fun e W5 => ∃ (V : LT) (q' : Int), e = .returned (.tuple #[.agg #[.int .i64 V.node.k, .int .i64 V.node.n, .string V.node.s, .slice V.node.a V.node.len V.node.cap], .int .i64 q']) ∧
            Hid (q ≤ q' ∧ q' ≤ q + costN d ∧ IsV (fun b => wr.heap.size ≤ b ∧ b < W5.heap.size) W5 V ∧ FineT d (.mk ck ca cl cc ckids) V ∧ Below wr.heap.size wr W5) := hI.mono fun e W5 h => by
          obtain ⟨V, q', he, h⟩ := h
          exact ⟨V, q', he, Lib.hid h⟩
        have HRV := Lib.hid R
        have HM := Lib.hid (And.intro hmul (And.intro hq0 hq1))
        have b3 : wr.cell? ⟨W3.heap.size, 3, none⟩ = some (.slice va k vc) := by simp [World.cell?, R.box]
        obtain ⟨i0, hi, hz0, hz1, hz2⟩ := info_parts infoV
        clear R hI hmul hq0 hq1 hcc hbr hb e0 e1 hkl hs2 hs3 hs4 hn hk
        go_wp2_with (first
          | (go_at_call 43; refine hI'.mono ?_; clear hI'; rintro e W5 ⟨⟨⟨vk, vn, vs', va', vl, vc'⟩, vkids⟩, q', rfl, HV⟩; have bx3 := Below.cell_al (.cells #[.int .i64 vk, .int .i64 vn, .string vs', .slice va' vl vc'] 24) ((HV.out.2.2.2.2.cell (p := ⟨W3.heap.size, 3, none⟩) (cell_lt b3)).trans b3); dsimp only [LT.node])
          | (at_builtin; refine wpList_append_own_at _ rfl _ _ 22 rfl (W3.heap.size + 1) 24 i0 (.agg #[.int .i64 0, .int .i64 0, .string ByteArray.empty, .slice none 0 0]) 4 56 undV hi hz0 hz1 hz2 rfl (by decide) _ _ _ rfl
              (ownsRow_kept HRV.out.own (fun g _ hg => ((Below.heap_alloc _ _ g (by have := HV.out.2.2.2.2.size; simp; omega)).trans (Below.heap_alloc _ _ g (by have := HV.out.2.2.2.2.size; omega))).trans (HV.out.2.2.2.2.block g hg)) : World.ownsRow ((W5.alloc (.cells #[.int .i64 vk, .int .i64 vn, .string vs', .slice va' vl vc'] 24)).alloc (.cells #[.int .i64 vk, .int .i64 vn, .string vs', .slice va' vl vc'] 24)) _ _ _ _ _ _) ⟨W5.heap.size + 1, 0, none⟩ 1 1 [.int .i64 vk, .int .i64 vn, .string vs', .slice va' vl vc'] rfl rfl ?c1 ?c2 ?c3 ?c4 ?c5 ?_))
        case c1 =>
          intro j u hj
          rcases j with _ | _ | _ | _ | j
          · simp at hj; subst hj; simp [Addr.add, go_sem]
          · simp at hj; subst hj; simp [Addr.add, go_sem]
          · simp at hj; subst hj; simp [Addr.add, go_sem]
          · simp at hj; subst hj; simp [Addr.add, go_sem]
          · simp at hj
        case c2 => intro u hu; simp at hu; rcases hu with rfl | rfl | rfl | rfl <;> rfl
        case c3 => unfold maxLen; omega
        case c4 => omega
        case c5 => have := HV.out.2.2.2.2.size; have := (Array.getElem?_eq_some_iff.1 HRV.out.box).1; simp; omega
        · intro v' W6 hown' hgrow _ hv'
          obtain ⟨wa, wc, rfl⟩ := isSlice hown'
          have x6 := HRV.out.box6 HV.out.2.2.2.2 hgrow
          have c6 : W6.cell? ⟨W3.heap.size, 3, none⟩ = some (.slice va k vc) := by simp [World.cell?, x6]
          have g6 : W6.frozen? ⟨W3.heap.size, 3, none⟩ = false := by simp [World.frozen?, x6]
          have R7 := Lib.hid (HRV.out.step (c := .mk ⟨vk, vn, vs', va', vl, vc'⟩ vkids) (by have := HZ.out; omega) HV.out.2.2.2.2 HV.out.2.2.1 HV.out.2.2.2.1.1 hown' hgrow (by rw [World.size_alloc, World.size_alloc]; exact hv'))
          clear hown' hgrow hv' x6
          go_wp2
          go_roundw
          case rel =>
            have hA := HV.out
            have hB := HM.out
            exact ⟨k + 1, q', _, _, by omega, by go_num, rfl, by omega, by rw [show ((k + 1 : Nat) : Int) = (k : Int) + 1 from by omega, Int.add_mul]; omega, R7.out, Lib.hid (HOL.out.snoc HRV.out.len HCC.out hA.2.2.2.1.2)⟩
          case measure => simp [intOf]; omega
      · have hr4' := (R.bel.block (w.heap.size + 1) (by omega)).trans HR4.out
        obtain ⟨⟨r0, r1, r2, r3⟩, g0, g1, g2, g3⟩ := cells4 hr4'
        obtain ⟨⟨b0, b1, b2, b3⟩, _⟩ := cells4 R.box
        have HR5 := Lib.hid hr4'
        have HRV := Lib.hid R
        have HM := Lib.hid (And.intro hq0 hq1)
        clear hr4' R hq0 hq1 hn hs2 hs3 hs4
        go_wp2
        have hz := HZ.out
        have hq := HM.out
        have hkn : k = tn := by omega
        have hfin := tupFin (a' := .int .i64 2) (b' := .int .i64 0) (c' := .string ByteArray.empty) (d' := .slice va k vc) (ta := ta) (tn := tn) (tc := tc) (m := kids) HRV.out (by omega) HOL.out (by have := HLen.out; omega) HB4.out (R := w.heap.size + 1) (by omega) (by omega)
        have hr5 := setAll4 (a' := .int .i64 2) (b' := .int .i64 0) (c' := .string ByteArray.empty) (d' := .slice va k vc) HR5.out
        have hcp : (costN (d + 1) : Int) = 1 + 3 * costN d := by simp [costN]
        have hmul : (k : Int) * costN d ≤ 3 * costN d := Int.mul_le_mul_of_nonneg_right (by omega) (by omega)
        refine ⟨rfl, .tuple #[Node.val ⟨2, 0, ByteArray.empty, va, k, vc⟩, .int .i64 q], ?_, .mk ⟨2, 0, ByteArray.empty, va, k, vc⟩ _, q, rfl, by omega, by omega, hfin⟩
        simp [results, Tryz.f43, go_sem, World.cell?, hr5, Node.val]
end Go.Proofs.YtofboalgbgipoaaGreatDoor
