/- The least value of a type is of it, and no value of it is ahead: the statement's own walk. -/
import Derived.Test.YtofboalgbgipoaaGreatDoorLste
import Derived.Test.YtofboalgbgipoaaGreatDoorValt
import Derived.Deep.QuietTactic
import Derived.BigQuiet
set_option linter.all false
namespace Go.Proofs.YtofboalgbgipoaaGreatDoor
open Go.RowKit Go.Shelf
attribute [local go_sem] Oper.semAt_some

/-- One of three values. -/
def L3 (x y z : LT) : Nat → LT
  | 0 => x
  | 1 => y
  | _ => z
theorem L3_mem (x y z : LT) (i : Nat) : L3 x y z i ∈ [x, y, z] := by
  rcases i with _ | _ | i <;> simp [L3]
/-- What holds behind the first call: the type, three values of it, and the least one, lie in blocks bt, ba, bf. -/
structure LQ (w : World) (bt ba bf : Nat) (T : TT) (x y z V : LT) (W : World) : Prop where
  tb : W.heap[bt]? = some (.cells #[.int .i64 T.k, .slice T.a T.len T.cap] 27 (0, 0))
  arr : W.heap[ba]? = some (.cells (cells12 x.node y.node z.node) 39 (0, 0))
  fb : W.heap[bf]? = some (.cells #[.int .i64 V.node.k, .int .i64 V.node.n, .string V.node.s, .slice V.node.a V.node.len V.node.cap] 24 (0, 0))
  bel : Below w.heap.size w W
  vs : ∀ U ∈ [x, y, z], IsT W.heap.size W U ∧ FineT 3 T U
  v : IsT W.heap.size W V
  ty : IsY W.heap.size W T.toY
theorem LQ.keep {w : World} {bt ba bf : Nat} {T : TT} {x y z V : LT} {W W' : World} (h : LQ w bt ba bf T x y z V W) (hb : Below W.heap.size W W') : LQ w bt ba bf T x y z V W' :=
  ⟨(hb.block _ (Array.getElem?_eq_some_iff.1 h.tb).1).trans h.tb, (hb.block _ (Array.getElem?_eq_some_iff.1 h.arr).1).trans h.arr, (hb.block _ (Array.getElem?_eq_some_iff.1 h.fb).1).trans h.fb, h.bel.trans (hb.mono h.bel.size),
    fun U hU => ⟨((h.vs U hU).1.bel hb).more hb.size, (h.vs U hU).2⟩, (h.v.bel hb).more hb.size, (h.ty.bel hb).more hb.size⟩
theorem LQ.at {w : World} {bt ba bf : Nat} {T : TT} {x y z V : LT} {W : World} (h : LQ w bt ba bf T x y z V W) (i : Nat) (hi : i < 3) :
    W.cell? ⟨ba, i * 4, none⟩ = some (.int .i64 (L3 x y z i).node.k) ∧ W.cell? ⟨ba, i * 4 + 1, none⟩ = some (.int .i64 (L3 x y z i).node.n) ∧ W.cell? ⟨ba, i * 4 + 2, none⟩ = some (.string (L3 x y z i).node.s) ∧ W.cell? ⟨ba, i * 4 + 3, none⟩ = some (.slice (L3 x y z i).node.a (L3 x y z i).node.len (L3 x y z i).node.cap) := by
  have hc := (cells12_at h.arr).1
  rcases (show i = 0 ∨ i = 1 ∨ i = 2 by omega) with rfl | rfl | rfl
  · exact ⟨hc 0, hc 1, hc 2, hc 3⟩
  · exact ⟨hc 4, hc 5, hc 6, hc 7⟩
  · exact ⟨hc 8, hc 9, hc 10, hc 11⟩
theorem LeastOf.kid {x : Node} {l : List LT} {y : TNode} {m : List YT} (h : LeastOf (.mk x l) (.mk y m)) {k : Nat} {c : LT} (hk : l[k]? = some c) : ∃ t, m[k]? = some t ∧ LeastOf c t := by
  cases h with
  | int => simp at hk
  | text => simp at hk
  | sum _ _ c' t m' _ _ _ _ _ hc =>
    rcases k with _ | k
    · simp at hk; subst hk; exact ⟨t, by simp, hc⟩
    · simp at hk
  | tuple _ _ _ _ _ _ _ _ _ hlm hc =>
    have hi := (List.getElem?_eq_some_iff.1 hk).1
    have hm : m[k]? = some m[k] := by simp [show k < m.length by omega]
    exact ⟨_, hm, hc k c _ hk hm⟩
theorem LeastOf.parts {x : Node} {l : List LT} {y : TNode} {m : List YT} {n₀ : Nat} {W : World} (h : LeastOf (.mk x l) (.mk y m)) (hY : IsY n₀ W (.mk y m)) (hT : typedF 6 (.mk y m) = true) : x.len = l.length ∧ ((y.k = 3 ∧ x.n = 0 ∧ x.len = 1 ∧ 1 ≤ y.len) ∨ (y.k ≠ 3 ∧ x.len = y.len)) := by
  have hl := hY.parts.1
  simp only [typedF, Bool.and_eq_true] at hT
  have ht := hT.1
  cases h with
  | int _ _ _ hy _ _ _ hx => exact ⟨by simpa using hx, .inr ⟨by omega, by rw [hy] at ht; simp [tokNode] at ht; omega⟩⟩
  | text _ _ _ hy _ _ _ hx => exact ⟨by simpa using hx, .inr ⟨by omega, by rw [hy] at ht; simp [tokNode] at ht; omega⟩⟩
  | sum _ _ c' t m' hy _ hn _ hx _ => exact ⟨by simpa using hx, .inl ⟨hy, hn, hx, by rw [hy] at ht; simp [tokNode] at ht; omega⟩⟩
  | tuple _ _ _ _ hy _ _ _ hx hlm _ => exact ⟨hx, .inr ⟨by omega, by omega⟩⟩

set_option maxRecDepth 100000 in
set_option maxHeartbeats 4000000 in
theorem Law_least (n₀ : Nat) (a : Option Addr) (len cap : Nat) (l : List Int) (w : World) (hl : IsInts n₀ w a len l) (hn : n₀ ≤ w.heap.size)
    (hv : ∀ W, Below w.heap.size w W → Calls Tryz.prog 16 #[] W fun e W' => e = .returned (.bool true) ∧ Below W.heap.size W W') :
    Calls Tryz.prog 4 #[.slice a len cap] w fun e w' => e = .returned (.bool true) ∧ Below w.heap.size w w' := by
  have h3' : Calls Tryz.prog 17 #[.slice a len cap] w fun e W3 => ∃ (T : TT) (x y z : LT), e = .returned (.tuple #[.agg #[.int .i64 T.k, .slice T.a T.len T.cap], .agg #[.int .i64 x.node.k, .int .i64 x.node.n, .string x.node.s, .slice x.node.a x.node.len x.node.cap, .int .i64 y.node.k, .int .i64 y.node.n, .string y.node.s, .slice y.node.a y.node.len y.node.cap, .int .i64 z.node.k, .int .i64 z.node.n, .string z.node.s, .slice z.node.a z.node.len z.node.cap]]) ∧
      Hid (T.ok 3 ∧ (∀ V ∈ [x, y, z], IsV (fun b => w.heap.size ≤ b ∧ b < W3.heap.size) W3 V ∧ FineT 3 T V) ∧ IsTT (fun b => w.heap.size ≤ b ∧ b < W3.heap.size) W3 T ∧ Below w.heap.size w W3) := (threeT_any n₀ a len cap l w hl hn).mono fun e W3 ⟨T, x, y, z, he, h0, h1, h2, h4⟩ => ⟨T, x, y, z, he, Lib.hid ⟨h0, h1, h2, h4⟩⟩
  have HV := Lib.hid hv
  clear hl hv
  go_enter Tryz.func4, Tryz.ntmps4
  go_upto_region 2 with (go_at_call 17; refine h3'.mono ?_; clear h3'; rintro e W3 ⟨T, x, y, z, rfl, H3⟩)
  obtain ⟨W4, hW4⟩ : ∃ W4, (W3.alloc (.cells #[.int .i64 T.k, .slice T.a T.len T.cap] 27)).alloc (.cells (cells12 x.node y.node z.node) 39) = W4 := ⟨_, rfl⟩
  have hg4 := hW4
  dsimp only [cells12] at hg4
  rw [hg4]
  clear hg4
  have h3 := H3.out
  have hb4 : Below W3.heap.size W3 W4 := by rw [← hW4]; exact ((Below.refl _ _).alloc (Nat.le_refl _) _).alloc (by simp) _
  obtain ⟨q1, q2⟩ := box2' W3 #[.int .i64 T.k, .slice T.a T.len T.cap] (cells12 x.node y.node z.node) 27 39
  rw [hW4] at q1 q2
  have hw4 : Below w.heap.size w W4 := h3.2.2.2.trans (hb4.mono h3.2.2.2.size)
  have hval : validY T.toY = true := TT.ok_valid h3.1 h3.2.2.1
  have hty4 : IsY W4.heap.size W4 T.toY := ((h3.2.2.1.isY (fun b h => h.2)).bel hb4).more hb4.size
  have hvs4 : ∀ U ∈ [x, y, z], IsT W4.heap.size W4 U ∧ FineT 3 T U := fun U hU => ⟨(((h3.2.1 U hU).1.isT (fun b h => h.2)).bel hb4).more hb4.size, (h3.2.1 U hU).2⟩
  have hL4 := Least_ok T.toY W4.heap.size W4 hty4 hval (Nat.le_refl _)
  have hL4' : Calls Tryz.prog 7 #[.agg #[.int .i64 T.k, .slice T.a T.len T.cap]] W4 fun e W5 => ∃ V : LT, e = .returned (.tuple #[.agg #[.int .i64 V.node.k, .int .i64 V.node.n, .string V.node.s, .slice V.node.a V.node.len V.node.cap], .int .i64 0]) ∧
      Hid (LeastOf V T.toY ∧ LQ w W3.heap.size (W3.heap.size + 1) W5.heap.size T x y z V (W5.alloc (.cells #[.int .i64 V.node.k, .int .i64 V.node.n, .string V.node.s, .slice V.node.a V.node.len V.node.cap] 24))) := by
    rw [TT.node_val] at hL4
    refine hL4.mono ?_
    rintro e W5 ⟨V, he, h1, h2, hb⟩
    have hb6 : Below W4.heap.size W4 (W5.alloc (.cells #[.int .i64 V.node.k, .int .i64 V.node.n, .string V.node.s, .slice V.node.a V.node.len V.node.cap] 24)) := hb.alloc hb.size _
    have h56 : Below W5.heap.size W5 (W5.alloc (.cells #[.int .i64 V.node.k, .int .i64 V.node.n, .string V.node.s, .slice V.node.a V.node.len V.node.cap] 24)) := (Below.refl _ _).alloc (Nat.le_refl _) _
    refine ⟨V, he, Lib.hid ⟨h1, (hb6.block _ (Array.getElem?_eq_some_iff.1 q1).1).trans q1, (hb6.block _ (Array.getElem?_eq_some_iff.1 q2).1).trans q2, World.alloc_heap_new W5 _, hw4.trans (hb6.mono hw4.size), fun U hU => ⟨((hvs4 U hU).1.bel hb6).more hb6.size, (hvs4 U hU).2⟩, ((h2.isT (fun b h => h.2)).bel h56).more h56.size, (hty4.bel hb6).more hb6.size⟩⟩
  obtain ⟨t0, t1⟩ := (cells2 q1).1
  have HVal := Lib.hid hval
  clear h3 hb4 q1 q2 hw4 hval hty4 hvs4 hL4 hW4 H3
  go_upto_region 3 with (go_at_call 7; refine hL4'.mono ?_; clear hL4'; rintro e W5 ⟨V, rfl, H5⟩)
  obtain ⟨bt, hbt⟩ : ∃ bt, W3.heap.size = bt := ⟨_, rfl⟩
  obtain ⟨bf, hbf⟩ : ∃ bf, W5.heap.size = bf := ⟨_, rfl⟩
  obtain ⟨W6, hW6⟩ : ∃ W6, W5.alloc (.cells #[.int .i64 V.node.k, .int .i64 V.node.n, .string V.node.s, .slice V.node.a V.node.len V.node.cap] 24) = W6 := ⟨_, rfl⟩
  rw [hW6, hbt, hbf]
  have HQ : Hid (LQ w bt (bt + 1) bf T x y z V W6) := Lib.hid (by have := H5.out.2; rw [hW6, hbt, hbf] at this; exact this)
  have HLf := Lib.hid H5.out.1
  clear t0 t1 H5 hW6 hbt hbf
  obtain ⟨⟨vk, vn, vs, va, vl, vc⟩, vkids⟩ := V
  obtain ⟨tk, ta, tl, tc, tkids⟩ := T
  have hparts := HLf.out.parts HQ.out.ty (by have := HVal.out; simp only [validY, Bool.and_eq_true] at this; exact this.1)
  obtain ⟨hvl, hcase⟩ := hparts
  simp only at hvl hcase
  have HVL := Lib.hid hvl
  clear hvl
  have HV8 : Hid ((vl : Int) ≤ 8) := Lib.hid (by
    have hv6 := HVal.out
    have hok := HLf.out.ok (n₀ := W6.heap.size) (W := W6) 6 (by simp only [validY, Bool.and_eq_true] at hv6; exact hv6.1) HQ.out.ty
    have h8 := hok.1.four.2.2.1
    simp only at h8
    omega)
  have FC : Hid (∀ W, LQ w bt (bt + 1) bf (.mk tk ta tl tc tkids) x y z (.mk ⟨vk, vn, vs, va, vl, vc⟩ vkids) W → (W.cell? ⟨bt, 0, none⟩ = some (.int .i64 tk) ∧ W.cell? ⟨bt, 1, none⟩ = some (.slice ta tl tc)) ∧ (W.cell? ⟨bf, 0, none⟩ = some (.int .i64 vk) ∧ W.cell? ⟨bf, 1, none⟩ = some (.int .i64 vn) ∧ W.cell? ⟨bf, 2, none⟩ = some (.string vs) ∧ W.cell? ⟨bf, 3, none⟩ = some (.slice va vl vc))) := Lib.hid fun W hW =>
    ⟨(cells2 hW.tb).1, (cells4 hW.fb).1⟩
  have hIs : Calls Tryz.prog 13 #[.agg #[.int .i64 vk, .int .i64 vn, .string vs, .slice va vl vc], .agg #[.int .i64 tk, .slice ta tl tc]] W6 fun e W7 => e = .returned (.bool true) ∧ Hid (LQ w bt (bt + 1) bf (.mk tk ta tl tc tkids) x y z (.mk ⟨vk, vn, vs, va, vl, vc⟩ vkids) W7) := by
    have hv6 := HVal.out
    have hok := HLf.out.ok (n₀ := W6.heap.size) (W := W6) 6 (by simp only [validY, Bool.and_eq_true] at hv6; exact hv6.1) HQ.out.ty
    have hcnt : (LT.mk ⟨vk, vn, vs, va, vl, vc⟩ vkids).cnt ≤ 60 := by
      have := hok.2.2
      simp only [validY, Bool.and_eq_true, decide_eq_true_eq] at hv6
      omega
    have h := Is_true _ _ W6.heap.size W6 HQ.out.v hok.1 hok.2.1 hcnt HQ.out.ty hv6 (HLf.out.fits HQ.out.ty) (Nat.le_refl _)
    exact h.mono fun e W7 h => ⟨h.1, Lib.hid (HQ.out.keep h.2)⟩
  obtain ⟨⟨t0, t1⟩, v0, v1, v2, v3⟩ := FC.out _ HQ.out
  dsimp only [LT.node, TT.k, TT.a, TT.len, TT.cap]
  go_cut [60] (fun s wx => s = .bool false ∧ Hid (LQ w bt (bt + 1) bf (.mk tk ta tl tc tkids) x y z (.mk ⟨vk, vn, vs, va, vl, vc⟩ vkids) wx))
  case first =>
    rcases hcase with ⟨h3, hn0, hl1, ht1⟩ | ⟨h3, hl⟩
    · subst h3
      subst hn0
      subst hl1
      by_cases htl : tl = 1
      · subst htl
        go_wp2_with (go_at_call 13; refine hIs.mono ?_; clear hIs; rintro e W7 ⟨rfl, H7⟩; obtain ⟨⟨t0, t1⟩, v0, v1, v2, v3⟩ := FC.out _ H7.out)
        go_meet
        exact ⟨rfl, H7⟩
      · have htI : ¬ (1 : Int) = (tl : Int) := by omega
        have htB : ((1 : Int) != (tl : Int)) = true := by simp; omega
        go_wp2_with (go_at_call 13; refine hIs.mono ?_; clear hIs; rintro e W7 ⟨rfl, H7⟩; obtain ⟨⟨t0, t1⟩, v0, v1, v2, v3⟩ := FC.out _ H7.out)
        go_meet
        exact ⟨rfl, H7⟩
    · subst hl
      have h3B : (tk == 3) = false := by simpa using h3
      go_wp2_with (go_at_call 13; refine hIs.mono ?_; clear hIs; rintro e W7 ⟨rfl, H7⟩; obtain ⟨⟨t0, t1⟩, v0, v1, v2, v3⟩ := FC.out _ H7.out)
      go_meet
      exact ⟨rfl, H7⟩
  case rest =>
    obtain ⟨rfl, HQ7⟩ := hcut
    clear hIs HQ t0 t1 v0 v1 v2 v3
    obtain ⟨W7, rfl⟩ : ∃ W7 : World, W7 = wc := ⟨_, rfl⟩
    go_wp2_with fail
    go_loopw [7] (fun i wr => ∃ k : Nat, k ≤ 3 ∧ i = .int .i64 k ∧ Hid (LQ w bt (bt + 1) bf (.mk tk ta tl tc tkids) x y z (.mk ⟨vk, vn, vs, va, vl, vc⟩ vkids) wr)) (fun i _ => 3 - (intOf i).toNat)
    case atStart => exact ⟨0, by omega, rfl, HQ7⟩
    case round =>
      clear HQ7
      obtain ⟨k, hk, rfl, HQ⟩ := hrel
      obtain ⟨⟨t0, t1⟩, v0, v1, v2, v3⟩ := FC.out _ HQ.out
      by_cases hlt : k < 3
      · have i0 : (0 : Int) ≤ (k : Int) := by omega
        have i1 : (k : Int) < 3 := by omega
        have hat := fun W (hW : LQ w bt (bt + 1) bf (.mk tk ta tl tc tkids) x y z (.mk ⟨vk, vn, vs, va, vl, vc⟩ vkids) W) => hW.at k hlt
        obtain ⟨U, hU⟩ : ∃ U, L3 x y z k = U := ⟨_, rfl⟩
        have gU := HQ.out.vs U (by rw [← hU]; exact L3_mem _ _ _ _)
        rw [hU] at hat
        have HAT := Lib.hid hat
        have hle : ordF (.mk ⟨vk, vn, vs, va, vl, vc⟩ vkids) U ≤ 0 := HLf.out.le _ U rfl gU.2.2 gU.2.1.1
        have hrg := ordF_range (.mk ⟨vk, vn, vs, va, vl, vc⟩ vkids) U
        have hCmp : Hid (∀ W, Below wr.heap.size wr W → Calls Tryz.prog 18 #[(LT.mk ⟨vk, vn, vs, va, vl, vc⟩ vkids).node.val, U.node.val] W fun e W' => e = .returned (.tuple #[.int .i64 (ordF (.mk ⟨vk, vn, vs, va, vl, vc⟩ vkids) U), .int .i64 0]) ∧ Hid (Below W.heap.size W W') ∧ Hid (LQ w bt (bt + 1) bf (.mk tk ta tl tc tkids) x y z (.mk ⟨vk, vn, vs, va, vl, vc⟩ vkids) W')) := Lib.hid fun W hW => by
          have hv6 := HVal.out
          have hok := HLf.out.ok (n₀ := wr.heap.size) (W := wr) 6 (by simp only [validY, Bool.and_eq_true] at hv6; exact hv6.1) HQ.out.ty
          have hcnt : (LT.mk ⟨vk, vn, vs, va, vl, vc⟩ vkids).cnt ≤ 60 := by
            have := hok.2.2
            simp only [validY, Bool.and_eq_true, decide_eq_true_eq] at hv6
            omega
          have hf := gU.2.1
          have h4 := hf.2.2
          simp [costM] at h4
          exact (Compare_ok _ U hok.1 hf.1 hok.2.1 (by have := hf.2.1; omega) hcnt (by omega) wr.heap.size W (HQ.out.v.bel hW) (gU.1.bel hW) hW.size).mono fun e W' h => ⟨h.1, Lib.hid h.2, Lib.hid (HQ.out.keep (hW.trans (h.2.mono hW.size)))⟩
        obtain ⟨r, hr⟩ : ∃ r, ordF (.mk ⟨vk, vn, vs, va, vl, vc⟩ vkids) U = r := ⟨_, rfl⟩
        rw [hr] at hCmp hle hrg
        obtain ⟨⟨uk, un, us, ua, ul, uc⟩, ukids⟩ := U
        dsimp only [LT.node, Node.val] at hCmp HAT
        obtain ⟨d0, d1, d2, d3⟩ := HAT.out _ HQ.out
        clear hat hU gU hr
        go_upto_region 8 with fail
        go_cut [8, 9] (fun s8 s9 wx => s8 = .int .i64 r ∧ s9 = .int .i64 0 ∧ Hid (LQ w bt (bt + 1) bf (.mk tk ta tl tc tkids) x y z (.mk ⟨vk, vn, vs, va, vl, vc⟩ vkids) wx))
        case first =>
          go_region_held3 (fun w' => w'.cell? ⟨bf, 0, none⟩ = some (.int .i64 vk) ∧ w'.cell? ⟨bf, 1, none⟩ = some (.int .i64 vn) ∧ w'.cell? ⟨bf, 2, none⟩ = some (.string vs) ∧ w'.cell? ⟨bf, 3, none⟩ = some (.slice va vl vc) ∧
              w'.cell? ⟨bt + 1, k * 4, none⟩ = some (.int .i64 uk) ∧ w'.cell? ⟨bt + 1, k * 4 + 1, none⟩ = some (.int .i64 un) ∧ w'.cell? ⟨bt + 1, k * 4 + 2, none⟩ = some (.string us) ∧ w'.cell? ⟨bt + 1, k * 4 + 3, none⟩ = some (.slice ua ul uc))
            (go_keep)
            (first
              | (go_at_call 18; refine (hCmp.out _ ?_).mono ?_; (first | exact Below.refl _ _ | exact (Below.refl _ _).drew); rintro e W4 ⟨rfl, H4, H4'⟩; obtain ⟨_, s0, s1, s2, s3⟩ := FC.out _ H4'.out; obtain ⟨s4, s5, s6, s7⟩ := HAT.out _ H4'.out))
          all_goals (go_step; go_step; go_meet; exact ⟨rfl, rfl, H4'⟩)
        case rest =>
          obtain ⟨rfl, rfl, HR2⟩ := hcut
          rcases (show r = 0 ∨ r = -1 by omega) with rfl | rfl
          all_goals
            go_wp2_with fail
            go_roundw
            case rel => exact ⟨k + 1, by omega, by go_num, HR2⟩
            case measure => simp [intOf]; omega
      · go_wp2_with fail
        go_loopw [10] (fun i wr => ∃ j : Nat, j ≤ vl ∧ i = .int .i64 j ∧ Hid (LQ w bt (bt + 1) bf (.mk tk ta tl tc tkids) x y z (.mk ⟨vk, vn, vs, va, vl, vc⟩ vkids) wr)) (fun i _ => vl - (intOf i).toNat)
        case atStart => exact ⟨0, by omega, rfl, HQ⟩
        case round =>
          clear HQ t0 t1 v0 v1 v2 v3
          obtain ⟨j, hj, rfl, HQ⟩ := hrel
          obtain ⟨⟨t0, t1⟩, v0, v1, v2, v3⟩ := FC.out _ HQ.out
          by_cases hjl : j < vl
          · have hjk : j < vkids.length := by have := HVL.out; omega
            obtain ⟨c, hcc⟩ : ∃ c, vkids[j]? = some c := ⟨vkids[j], by simp [hjk]⟩
            obtain ⟨t, htt, hct⟩ := HLf.out.kid hcc
            have hty := HQ.out.ty
            have hvv := HQ.out.v
            simp only [TT.toY] at hty htt
            have htv : validY t = true := validY_kid (by have := HVal.out; simp only [TT.toY] at this; exact this) t (List.mem_of_getElem? htt)
            have htk := hty.parts.2 t (List.mem_of_getElem? htt)
            have hjt : j < tl := by
              have h1 := hty.parts.1
              have h2 := (List.getElem?_eq_some_iff.1 htt).1
              simp only at h1
              omega
            have hck := hvv.kid c (List.mem_of_getElem? hcc)
            have hok := hct.ok (n₀ := wr.heap.size) (W := wr) 6 (by simp only [validY, Bool.and_eq_true] at htv; exact htv.1) htk
            have vcs : ∃ b off, va = some ⟨b, off, none⟩ ∧ b < wr.heap.size ∧ wr.cell? ⟨b, off + j * 4, none⟩ = some (.int .i64 c.node.k) ∧ wr.cell? ⟨b, off + j * 4 + 1, none⟩ = some (.int .i64 c.node.n) ∧ wr.cell? ⟨b, off + j * 4 + 2, none⟩ = some (.string c.node.s) ∧ wr.cell? ⟨b, off + j * 4 + 3, none⟩ = some (.slice c.node.a c.node.len c.node.cap) := by
              cases hvv with
              | mk _ _ _ _ _ hc _ => exact hc j c hcc
            have tcs : ∃ b off, ta = some ⟨b, off, none⟩ ∧ b < wr.heap.size ∧ wr.cell? ⟨b, off + j * 2, none⟩ = some (.int .i64 t.node.k) ∧ wr.cell? ⟨b, off + j * 2 + 1, none⟩ = some (.slice t.node.a t.node.len t.node.cap) := by
              cases hty with
              | mk _ _ _ _ hc _ => exact hc j t htt
            obtain ⟨b, off, rfl, hbb, e0, e1, e2, e3⟩ := vcs
            obtain ⟨b', off', rfl, hbb', g0, g1⟩ := tcs
            have j0 : (0 : Int) ≤ (j : Int) := by omega
            have j1 : (j : Int) < (vl : Int) := by omega
            have j2 : (j : Int) < (tl : Int) := by omega
            have hL : Calls Tryz.prog 7 #[t.node.val] wr fun e W8 => ∃ X : LT, e = .returned (.tuple #[.agg #[.int .i64 X.node.k, .int .i64 X.node.n, .string X.node.s, .slice X.node.a X.node.len X.node.cap], .int .i64 0]) ∧ Hid (LeastOf X t ∧ IsT W8.heap.size W8 X ∧ Below wr.heap.size wr W8) :=
              (Least_ok t wr.heap.size wr htk htv (Nat.le_refl _)).mono fun e W8 ⟨X, he, h1, h2, h3⟩ => ⟨X, he, Lib.hid ⟨h1, h2.isT (fun b h => h.2), h3⟩⟩
            have HCk := Lib.hid (And.intro hck (And.intro hct hok))
            have HBB := Lib.hid hbb
            obtain ⟨⟨ck, cn, cs, ca, cl, cc⟩, ckids⟩ := c
            obtain ⟨⟨uk, ua, ul, uc⟩, ukids⟩ := t
            dsimp only [LT.node, YT.node, TNode.val] at e0 e1 e2 e3 g0 g1 hL
            clear hty hvv htv htk hck hct hok hcc htt hjk hbb hbb'
            go_upto_region 15 with (go_at_call 7; refine hL.mono ?_; clear hL; rintro e W8 ⟨⟨⟨xk, xn, xs, xa, xl, xc⟩, xkids⟩, rfl, H8⟩; dsimp only [LT.node])
            obtain ⟨W9, hW9⟩ : ∃ W9, W8.alloc (.cells #[.int .i64 xk, .int .i64 xn, .string xs, .slice xa xl xc] 24) = W9 := ⟨_, rfl⟩
            obtain ⟨bx, hbx⟩ : ∃ bx, W8.heap.size = bx := ⟨_, rfl⟩
            have h89 : Below W8.heap.size W8 W9 := by rw [← hW9]; exact (Below.refl _ _).alloc (Nat.le_refl _) _
            have h9 : W9.heap[bx]? = some (.cells #[.int .i64 xk, .int .i64 xn, .string xs, .slice xa xl xc] 24 (0, 0)) := by rw [← hW9, ← hbx]; exact World.alloc_heap_new W8 _
            have hq9 : Below wr.heap.size wr W9 := H8.out.2.2.trans (h89.mono H8.out.2.2.size)
            have HQ9 := Lib.hid (HQ.out.keep hq9)
            have kp : ∀ {b o : Nat} {v : Value}, wr.cell? ⟨b, o, none⟩ = some v → W9.cell? ⟨b, o, none⟩ = some v := fun {b o v} hc => (hq9.cell (p := ⟨b, o, none⟩) (cell_lt hc)).trans hc
            have f0 := kp e0
            have f1 := kp e1
            have f2 := kp e2
            have f3 := kp e3
            have f4 := kp v3
            obtain ⟨x0, x1, x2, x3⟩ := (cells4 h9).1
            have hS : Hid (∀ W, Below W9.heap.size W9 W → Calls Tryz.prog 15 #[.agg #[.int .i64 xk, .int .i64 xn, .string xs, .slice xa xl xc], .agg #[.int .i64 ck, .int .i64 cn, .string cs, .slice ca cl cc]] W fun e W' => e = .returned (.bool true) ∧ Hid (Below W9.heap.size W9 W') ∧
                (W'.cell? ⟨bx, 0, none⟩ = some (.int .i64 xk) ∧ W'.cell? ⟨bx, 1, none⟩ = some (.int .i64 xn) ∧ W'.cell? ⟨bx, 2, none⟩ = some (.string xs) ∧ W'.cell? ⟨bx, 3, none⟩ = some (.slice xa xl xc) ∧ W'.cell? ⟨bf, 3, none⟩ = some (.slice (some ⟨b, off, none⟩) vl vc) ∧ W'.cell? ⟨b, off + j * 4, none⟩ = some (.int .i64 ck) ∧ W'.cell? ⟨b, off + j * 4 + 1, none⟩ = some (.int .i64 cn) ∧ W'.cell? ⟨b, off + j * 4 + 2, none⟩ = some (.string cs) ∧ W'.cell? ⟨b, off + j * 4 + 3, none⟩ = some (.slice ca cl cc))) := Lib.hid fun W hW => by
              have h8 := H8.out
              have hX : IsT W9.heap.size W9 (.mk ⟨xk, xn, xs, xa, xl, xc⟩ xkids) := (h8.2.1.bel h89).more h89.size
              have hC : IsT W9.heap.size W9 (.mk ⟨ck, cn, cs, ca, cl, cc⟩ ckids) := (HCk.out.1.bel hq9).more hq9.size
              have hsame := h8.1.same _ HCk.out.2.1
              have hXok := h8.1.ok (n₀ := wr.heap.size) (W := wr) 6
              have h := same_any (LT.mk ⟨xk, xn, xs, xa, xl, xc⟩ xkids).ht _ (LT.mk ⟨ck, cn, cs, ca, cl, cc⟩ ckids) (Nat.le_refl _) W9.heap.size W (hX.bel hW) (hC.bel hW) hW.size
              rw [hsame] at h
              refine h.mono ?_
              rintro e W' ⟨he, hb⟩
              have hB := hW.trans (hb.mono hW.size)
              have kp : ∀ {b o : Nat} {v : Value}, W9.cell? ⟨b, o, none⟩ = some v → W'.cell? ⟨b, o, none⟩ = some v := fun {b o v} hc => (hB.cell (p := ⟨b, o, none⟩) (cell_lt hc)).trans hc
              exact ⟨he, Lib.hid hB, kp x0, kp x1, kp x2, kp x3, kp f4, kp f0, kp f1, kp f2, kp f3⟩
            rw [hW9, hbx]
            clear kp hq9 h9 h89 hW9 hbx e0 e1 e2 e3 v3 v0 v1 v2 t0 t1 g0 g1 H8
            go_cut [106] (fun s wx => s = .bool false ∧ Hid (LQ w bt (bt + 1) bf (.mk tk (some ⟨b', off', none⟩) tl tc tkids) x y z (.mk ⟨vk, vn, vs, some ⟨b, off, none⟩, vl, vc⟩ vkids) wx))
            case first =>
              go_region_held3 (fun w' => w'.cell? ⟨bx, 0, none⟩ = some (.int .i64 xk) ∧ w'.cell? ⟨bx, 1, none⟩ = some (.int .i64 xn) ∧ w'.cell? ⟨bx, 2, none⟩ = some (.string xs) ∧ w'.cell? ⟨bx, 3, none⟩ = some (.slice xa xl xc) ∧ w'.cell? ⟨bf, 3, none⟩ = some (.slice (some ⟨b, off, none⟩) vl vc) ∧ w'.cell? ⟨b, off + j * 4, none⟩ = some (.int .i64 ck) ∧ w'.cell? ⟨b, off + j * 4 + 1, none⟩ = some (.int .i64 cn) ∧ w'.cell? ⟨b, off + j * 4 + 2, none⟩ = some (.string cs) ∧ w'.cell? ⟨b, off + j * 4 + 3, none⟩ = some (.slice ca cl cc))
                (go_keep)
                (first
                  | (go_at_call 15; refine (hS.out _ ?_).mono ?_; (first | exact Below.refl _ _ | exact (Below.refl _ _).drew); rintro e W4 ⟨rfl, H4, s0, s1, s2, s3, s4, s5, s6, s7, s8⟩))
              all_goals (go_step; go_step; go_meet; exact ⟨rfl, Lib.hid (HQ9.out.keep H4.out)⟩)
            case rest =>
              obtain ⟨rfl, HR2⟩ := hcut
              have hv8 := HV8.out
              go_wp2_with fail
              go_roundw
              case rel => exact ⟨j + 1, by omega, by go_num, HR2⟩
              case measure => simp [intOf]; omega
          · go_wp2_with (go_at_call 16; refine (HV.out _ HQ.out.bel).mono ?_; rintro e W' ⟨rfl, hb⟩)
            go_ret
            exact ⟨rfl, HQ.out.bel.trans (hb.mono HQ.out.bel.size)⟩
end Go.Proofs.YtofboalgbgipoaaGreatDoor
