/- Of three values it is one order. -/
import Derived.Test.YtolnkacccdkaoaaGreatDoorValp
import Derived.Test.YtolnkacccdkaoaaGreatDoorValt
import Derived.Deep.QuietTactic
import Derived.BigQuiet
import Derived.Deep.RegionWith
set_option linter.all false
namespace Go.Proofs.YtolnkacccdkaoaaGreatDoor
open Go.RowKit Go.Shelf
attribute [local go_sem] Oper.semAt_some

/-- Three values lie in a row, block b. -/
structure Q8 (w : World) (b : Nat) (x y z : LT) (W : World) : Prop where
  arr : W.heap[b]? = some (.cells (cells12 x.node y.node z.node) 49 (0, 0))
  bel : Below w.heap.size w W
  good : ∀ V ∈ [x, y, z], IsT W.heap.size W V ∧ OkV V ∧ V.ht ≤ 6 ∧ V.cnt ≤ 60
def Lf (x y z : LT) : Nat → LT
  | 0 => x
  | 1 => y
  | _ => z
theorem Lf_mem (x y z : LT) (i : Nat) : Lf x y z i ∈ [x, y, z] := by
  rcases i with _ | _ | i <;> simp [Lf]
theorem Q8.at {w : World} {b : Nat} {x y z : LT} {W W' : World} (h : Q8 w b x y z W) (hb : Below W.heap.size W W') (i : Nat) (hi : i < 3) :
    W'.cell? ⟨b, i * 4, none⟩ = some (.int .i64 (Lf x y z i).node.k) ∧ W'.cell? ⟨b, i * 4 + 1, none⟩ = some (.int .i64 (Lf x y z i).node.n) ∧ W'.cell? ⟨b, i * 4 + 2, none⟩ = some (.string (Lf x y z i).node.s) ∧ W'.cell? ⟨b, i * 4 + 3, none⟩ = some (.slice (Lf x y z i).node.a (Lf x y z i).node.len (Lf x y z i).node.cap) := by
  have hc := (cells12_at ((hb.block b (Array.getElem?_eq_some_iff.1 h.arr).1).trans h.arr)).1
  rcases (show i = 0 ∨ i = 1 ∨ i = 2 by omega) with rfl | rfl | rfl
  · exact ⟨hc 0, hc 1, hc 2, hc 3⟩
  · exact ⟨hc 4, hc 5, hc 6, hc 7⟩
  · exact ⟨hc 8, hc 9, hc 10, hc 11⟩
theorem Q8.mixed {w W7 : World} {b8 R : Nat} {x y z x2 y2 : LT} (hk : W7.heap[b8]? = some (.cells (cells12 x.node y.node z.node) 49 (0, 0))) (hbel : Below w.heap.size w W7) (hb8 : w.heap.size ≤ b8)
    (hrow : W7.heap[R]? = some (.cells #[.int .i64 z.node.k, .int .i64 z.node.n, .string z.node.s, .slice z.node.a z.node.len z.node.cap, .int .i64 y2.node.k, .int .i64 y2.node.n, .string y2.node.s, .slice y2.node.a y2.node.len y2.node.cap] 24 (0, 0))) (hR : R ≠ b8)
    (hx : IsV (fun b => b < W7.heap.size ∧ b ≠ b8) W7 x ∧ Fine 3 x) (hx2 : IsV (fun b => b < W7.heap.size ∧ b ≠ b8) W7 x2 ∧ Fine 3 x2) (hz : IsV (fun b => b < W7.heap.size ∧ b ≠ b8) W7 z ∧ Fine 3 z) (hy2 : IsV (fun b => b < W7.heap.size ∧ b ≠ b8) W7 y2 ∧ Fine 3 y2) :
    Q8 w b8 x x2 (.mk ⟨2, 0, ByteArray.empty, some ⟨R, 0, none⟩, 2, 2⟩ [z, y2]) ((((((((W7.setCell ⟨b8, 4, none⟩ (.int .i64 x2.node.k)).setCell ⟨b8, 5, none⟩ (.int .i64 x2.node.n)).setCell ⟨b8, 6, none⟩ (.string x2.node.s)).setCell ⟨b8, 7, none⟩ (.slice x2.node.a x2.node.len x2.node.cap)).setCell ⟨b8, 8, none⟩ (.int .i64 2)).setCell ⟨b8, 9, none⟩ (.int .i64 0)).setCell ⟨b8, 10, none⟩ (.string ByteArray.empty)).setCell ⟨b8, 11, none⟩ (.slice (some ⟨R, 0, none⟩) 2 2)) := by
  obtain ⟨WF, hWF⟩ : ∃ WF, ((((((((W7.setCell ⟨b8, 4, none⟩ (.int .i64 x2.node.k)).setCell ⟨b8, 5, none⟩ (.int .i64 x2.node.n)).setCell ⟨b8, 6, none⟩ (.string x2.node.s)).setCell ⟨b8, 7, none⟩ (.slice x2.node.a x2.node.len x2.node.cap)).setCell ⟨b8, 8, none⟩ (.int .i64 2)).setCell ⟨b8, 9, none⟩ (.int .i64 0)).setCell ⟨b8, 10, none⟩ (.string ByteArray.empty)).setCell ⟨b8, 11, none⟩ (.slice (some ⟨R, 0, none⟩) 2 2)) = WF := ⟨_, rfl⟩
  have hk8 : ∀ b, b ≠ b8 → WF.heap[b]? = W7.heap[b]? := fun b hne => by
    rw [← hWF]
    iterate 8 rw [Below.heap_setCell _ _ _ b (by show b ≠ b8; exact hne)]
  have hsz : WF.heap.size = W7.heap.size := by rw [← hWF]; simp [World.setCell]
  have hb : Below w.heap.size w WF := by
    rw [← hWF]
    iterate 8 refine Below.setCell ?_ (p := ⟨b8, _, none⟩) hb8 _
    exact hbel
  have harr : WF.heap[b8]? = some (.cells (cells12 x.node x2.node ⟨2, 0, ByteArray.empty, some ⟨R, 0, none⟩, 2, 2⟩) 49 (0, 0)) := by
    rw [← hWF]
    have q1 := setOneAt (i := 4) (v := .int .i64 x2.node.k) (y := #[.int .i64 x.node.k, .int .i64 x.node.n, .string x.node.s, .slice x.node.a x.node.len x.node.cap, .int .i64 x2.node.k, .int .i64 y.node.n, .string y.node.s, .slice y.node.a y.node.len y.node.cap, .int .i64 z.node.k, .int .i64 z.node.n, .string z.node.s, .slice z.node.a z.node.len z.node.cap]) hk rfl
    have q2 := setOneAt (i := 5) (v := .int .i64 x2.node.n) (y := #[.int .i64 x.node.k, .int .i64 x.node.n, .string x.node.s, .slice x.node.a x.node.len x.node.cap, .int .i64 x2.node.k, .int .i64 x2.node.n, .string y.node.s, .slice y.node.a y.node.len y.node.cap, .int .i64 z.node.k, .int .i64 z.node.n, .string z.node.s, .slice z.node.a z.node.len z.node.cap]) q1 rfl
    have q3 := setOneAt (i := 6) (v := .string x2.node.s) (y := #[.int .i64 x.node.k, .int .i64 x.node.n, .string x.node.s, .slice x.node.a x.node.len x.node.cap, .int .i64 x2.node.k, .int .i64 x2.node.n, .string x2.node.s, .slice y.node.a y.node.len y.node.cap, .int .i64 z.node.k, .int .i64 z.node.n, .string z.node.s, .slice z.node.a z.node.len z.node.cap]) q2 rfl
    have q4 := setOneAt (i := 7) (v := .slice x2.node.a x2.node.len x2.node.cap) (y := #[.int .i64 x.node.k, .int .i64 x.node.n, .string x.node.s, .slice x.node.a x.node.len x.node.cap, .int .i64 x2.node.k, .int .i64 x2.node.n, .string x2.node.s, .slice x2.node.a x2.node.len x2.node.cap, .int .i64 z.node.k, .int .i64 z.node.n, .string z.node.s, .slice z.node.a z.node.len z.node.cap]) q3 rfl
    have q5 := setOneAt (i := 8) (v := .int .i64 2) (y := #[.int .i64 x.node.k, .int .i64 x.node.n, .string x.node.s, .slice x.node.a x.node.len x.node.cap, .int .i64 x2.node.k, .int .i64 x2.node.n, .string x2.node.s, .slice x2.node.a x2.node.len x2.node.cap, .int .i64 2, .int .i64 z.node.n, .string z.node.s, .slice z.node.a z.node.len z.node.cap]) q4 rfl
    have q6 := setOneAt (i := 9) (v := .int .i64 0) (y := #[.int .i64 x.node.k, .int .i64 x.node.n, .string x.node.s, .slice x.node.a x.node.len x.node.cap, .int .i64 x2.node.k, .int .i64 x2.node.n, .string x2.node.s, .slice x2.node.a x2.node.len x2.node.cap, .int .i64 2, .int .i64 0, .string z.node.s, .slice z.node.a z.node.len z.node.cap]) q5 rfl
    have q7 := setOneAt (i := 10) (v := .string ByteArray.empty) (y := #[.int .i64 x.node.k, .int .i64 x.node.n, .string x.node.s, .slice x.node.a x.node.len x.node.cap, .int .i64 x2.node.k, .int .i64 x2.node.n, .string x2.node.s, .slice x2.node.a x2.node.len x2.node.cap, .int .i64 2, .int .i64 0, .string ByteArray.empty, .slice z.node.a z.node.len z.node.cap]) q6 rfl
    have q8 := setOneAt (i := 11) (v := .slice (some ⟨R, 0, none⟩) 2 2) (y := #[.int .i64 x.node.k, .int .i64 x.node.n, .string x.node.s, .slice x.node.a x.node.len x.node.cap, .int .i64 x2.node.k, .int .i64 x2.node.n, .string x2.node.s, .slice x2.node.a x2.node.len x2.node.cap, .int .i64 2, .int .i64 0, .string ByteArray.empty, .slice (some ⟨R, 0, none⟩) 2 2]) q7 rfl
    exact q8
  rw [hWF]
  have kp : ∀ {V : LT}, IsV (fun b => b < W7.heap.size ∧ b ≠ b8) W7 V → IsV (fun b => b < WF.heap.size ∧ b ≠ b8) WF V := fun hV => hV.kept (fun b h => by rw [hsz]; exact h) (fun b h _ => hk8 b h.2)
  have hRlt := (Array.getElem?_eq_some_iff.1 hrow).1
  have htup : IsV (fun b => b < WF.heap.size ∧ b ≠ b8) WF (.mk ⟨2, 0, ByteArray.empty, some ⟨R, 0, none⟩, 2, 2⟩ [z, y2]) := by
    have hr := (hk8 R hR).trans hrow
    refine .mk _ _ rfl (by simp [maxLen]) (by simp) (fun i c hi => ?_) (fun c hc => ?_)
    · rcases i with _ | _ | i
      · simp at hi; subst hi
        exact ⟨R, rfl, ⟨by rw [hsz]; exact hRlt, hR⟩, by simp [World.cell?, hr], by simp [World.cell?, hr], by simp [World.cell?, hr], by simp [World.cell?, hr]⟩
      · simp at hi; subst hi
        exact ⟨R, rfl, ⟨by rw [hsz]; exact hRlt, hR⟩, by simp [World.cell?, hr], by simp [World.cell?, hr], by simp [World.cell?, hr], by simp [World.cell?, hr]⟩
      · simp at hi
    · simp only [List.mem_cons, List.not_mem_nil, or_false] at hc
      rcases hc with rfl | rfl
      · exact kp hz.1
      · exact kp hy2.1
  have cz := hz.2.2.2
  have cy := hy2.2.2.2
  have cx := hx.2.2.2
  have cx2 := hx2.2.2.2
  simp [costM] at cz cy cx cx2
  refine ⟨harr, hb, fun V hV => ?_⟩
  simp only [List.mem_cons, List.not_mem_nil, or_false] at hV
  rcases hV with rfl | rfl | rfl
  · exact ⟨(kp hx.1).isT (fun b h => h.1), hx.2.1, by have := hx.2.2.1; omega, by omega⟩
  · exact ⟨(kp hx2.1).isT (fun b h => h.1), hx2.2.1, by have := hx2.2.2.1; omega, by omega⟩
  · refine ⟨htup.isT (fun b h => h.1), .mk _ _ (by simp [okNode]) (by simp) (by simp) (fun c hc => ?_), ?_, ?_⟩
    · simp only [List.mem_cons, List.not_mem_nil, or_false] at hc
      rcases hc with rfl | rfl
      · exact hz.2.1
      · exact hy2.2.1
    · have h1 := hz.2.2.1
      have h2 := hy2.2.2.1
      simp only [LT.ht, LT.htL]; omega
    · simp only [LT.cnt, LT.cntL]; omega
set_option maxHeartbeats 1000000 in
theorem Lies_ok (n : Int) (h0 : -1 ≤ n) (h1 : n ≤ 1) (w : World) :
    Calls Tryz.prog 42 #[.int .i64 n, .int .i64 (-1), .int .i64 1] w fun e w' => e = .returned (.bool true) ∧ w' = w := by
  go_enter Tryz.func42, Tryz.ntmps42
  go_wp2
  go_ret
  exact ⟨rfl, rfl⟩
/-- The table of comparisons, as far as it is filled: block O. -/
structure R9 (w : World) (b O : Nat) (x y z : LT) (W0 : World) (n : Nat) (A : Array Value) (W : World) : Prop where
  box : W.heap[O]? = some (.cells A 54 (0, 0))
  siz : A.size = 9
  bel : Below W0.heap.size W0 W
  hO : W0.heap.size ≤ O
  got : ∀ j, j < n → A[j]? = some (.int .i64 (ordF (Lf x y z (j / 3)) (Lf x y z (j % 3))))

theorem R9.keep {w : World} {b O : Nat} {x y z : LT} {W0 : World} {n : Nat} {A : Array Value} {W W' : World} (h : R9 w b O x y z W0 n A W) (hb : Below W.heap.size W W') : R9 w b O x y z W0 n A W' :=
  ⟨(hb.block O (Array.getElem?_eq_some_iff.1 h.box).1).trans h.box, h.siz, h.bel.trans (hb.mono h.bel.size), h.hO, h.got⟩
theorem R9.put {w : World} {b O : Nat} {x y z : LT} {W0 : World} {n : Nat} {A : Array Value} {W : World} (h : R9 w b O x y z W0 n A W) (hn : n < 9) {r : Int} (hr : r = ordF (Lf x y z (n / 3)) (Lf x y z (n % 3))) :
    R9 w b O x y z W0 (n + 1) (A.setIfInBounds n (.int .i64 r)) (W.setCell ⟨O, n, none⟩ (.int .i64 r)) := by
  have hs := h.siz
  refine ⟨setOneAt h.box rfl, by simp [hs], h.bel.setCell (p := ⟨O, n, none⟩) h.hO _, h.hO, fun j hj => ?_⟩
  by_cases e : j = n
  · subst e
    rw [Array.getElem?_setIfInBounds_self_of_lt (by omega), hr]
  · rw [Array.getElem?_setIfInBounds_ne (by omega)]
    exact h.got j (by omega)
theorem R9.cell {w : World} {b O : Nat} {x y z : LT} {W0 : World} {n : Nat} {A : Array Value} {W : World} (h : R9 w b O x y z W0 n A W) (j : Nat) (hj : j < 9) : (∃ v, W.cell? ⟨O, j, none⟩ = some v) ∧ W.frozen? ⟨O, j, none⟩ = false := by
  have hs := h.siz
  constructor
  · exact ⟨A[j]'(by omega), by simp [World.cell?, h.box, show j < A.size by omega]⟩
  · simp [World.frozen?, h.box]
theorem below_drewN (W : World) (n : Nat) : Below W.heap.size W (W.drewN n) := by
  first
    | exact ⟨rfl, rfl, rfl, Nat.le_refl _, fun _ _ => rfl⟩
    | (refine ⟨?_, ?_, ?_, ?_, ?_⟩ <;> first | simp | (intros; simp))
theorem R9.val {w : World} {b O : Nat} {x y z : LT} {W0 : World} {A : Array Value} {W : World} (h : R9 w b O x y z W0 9 A W) (i k : Nat) (hi : i < 3) (hk : k < 3) :
    W.cell? ⟨O, i * 3 + k, none⟩ = some (.int .i64 (ordF (Lf x y z i) (Lf x y z k))) := by
  have h1 := h.got (i * 3 + k) (by omega)
  rw [show (i * 3 + k) / 3 = i by omega, show (i * 3 + k) % 3 = k by omega] at h1
  unfold World.cell?
  simp only [h.box]
  exact h1
set_option maxRecDepth 100000 in
set_option maxHeartbeats 2000000 in
theorem One_any (n₀ : Nat) (a : Option Addr) (len cap : Nat) (l : List Int) (a2 : Option Addr) (len2 cap2 : Nat) (l2 : List Int) (mixed : Bool) (w : World) (hl : IsInts n₀ w a len l) (hl2 : IsInts n₀ w a2 len2 l2) (hn : n₀ ≤ w.heap.size)
    (hv : ∀ W, Below w.heap.size w W → Calls Tryz.prog 24 #[] W fun e W' => e = .returned (.bool true) ∧ Below W.heap.size W W') :
    Calls Tryz.prog 7 #[.slice a len cap, .slice a2 len2 cap2, .bool mixed] w fun e w' => e = .returned (.bool true) ∧ Below w.heap.size w w' := by
  have h3' : Calls Tryz.prog 40 #[.slice a len cap] w fun e W3 => ∃ (T : TT) (x y z : LT), e = .returned (.tuple #[.agg #[.int .i64 T.k, .slice T.a T.len T.cap], .agg #[.int .i64 x.node.k, .int .i64 x.node.n, .string x.node.s, .slice x.node.a x.node.len x.node.cap, .int .i64 y.node.k, .int .i64 y.node.n, .string y.node.s, .slice y.node.a y.node.len y.node.cap, .int .i64 z.node.k, .int .i64 z.node.n, .string z.node.s, .slice z.node.a z.node.len z.node.cap]]) ∧
      Hid ((∀ V ∈ [x, y, z], IsV (fun b => w.heap.size ≤ b ∧ b < W3.heap.size) W3 V ∧ Fine 3 V) ∧ Below w.heap.size w W3) := (three_any n₀ a len cap l w hl hn).mono fun e W3 ⟨T, x, y, z, he, _, h1, _, h2⟩ => ⟨T, x, y, z, he, Lib.hid ⟨h1, h2⟩⟩
  have HL := Lib.hid hl2
  have HV := Lib.hid hv
  clear hl hl2 hv
  go_enter Tryz.func7, Tryz.ntmps7
  go_upto_if 24 with (go_at_call 40; refine h3'.mono ?_; clear h3'; rintro e W3 ⟨T, x, y, z, rfl, H3⟩)
  go_cut [] (fun wx => ∃ x' y' z' : LT, Hid (Q8 w (W3.heap.size + 1) x' y' z' wx))
  case first =>
    cases mixed with
    | false =>
      go_wp2_with fail
      go_meet
      have h3 := H3.out
      have hb : Below W3.heap.size W3 ((W3.alloc (.cells #[.int .i64 T.k, .slice T.a T.len T.cap] 27)).alloc (.cells (cells12 x.node y.node z.node) 49)) := ((Below.refl _ _).alloc (Nat.le_refl _) _).alloc (by simp) _
      refine ⟨x, y, z, Lib.hid ⟨?_, h3.2.trans (hb.mono h3.2.size), fun V hV => ?_⟩⟩
      · have := World.alloc_heap_new (W3.alloc (.cells #[.int .i64 T.k, .slice T.a T.len T.cap] 27)) (.cells (cells12 x.node y.node z.node) 49)
        rw [World.size_alloc] at this
        exact this
      · have h1 := h3.1 V hV
        have h4 := h1.2.2.2
        simp [costM] at h4
        exact ⟨((h1.1.isT (fun b h => h.2)).bel hb).more hb.size, h1.2.1, by have := h1.2.2.1; omega, by omega⟩
    | true =>
      have h3 := H3.out
      obtain ⟨W4, hW4⟩ : ∃ W4, (W3.alloc (.cells #[.int .i64 T.k, .slice T.a T.len T.cap] 27)).alloc (.cells (cells12 x.node y.node z.node) 49) = W4 := ⟨_, rfl⟩
      have hb4 : Below W3.heap.size W3 W4 := by rw [← hW4]; exact ((Below.refl _ _).alloc (Nat.le_refl _) _).alloc (by simp) _
      have hw4 : Below w.heap.size w W4 := h3.2.trans (hb4.mono h3.2.size)
      have hs4 : W4.heap.size = W3.heap.size + 2 := by rw [← hW4]; simp
      have arr4 : W4.heap[W3.heap.size + 1]? = some (.cells (cells12 x.node y.node z.node) 49 (0, 0)) := by
        rw [← hW4]
        have := World.alloc_heap_new (W3.alloc (.cells #[.int .i64 T.k, .slice T.a T.len T.cap] 27)) (.cells (cells12 x.node y.node z.node) 49)
        rw [World.size_alloc] at this
        exact this
      have hT2 : Calls Tryz.prog 40 #[.slice a2 len2 cap2] W4 fun e W5 => ∃ (T : TT) (x y z : LT), e = .returned (.tuple #[.agg #[.int .i64 T.k, .slice T.a T.len T.cap], .agg #[.int .i64 x.node.k, .int .i64 x.node.n, .string x.node.s, .slice x.node.a x.node.len x.node.cap, .int .i64 y.node.k, .int .i64 y.node.n, .string y.node.s, .slice y.node.a y.node.len y.node.cap, .int .i64 z.node.k, .int .i64 z.node.n, .string z.node.s, .slice z.node.a z.node.len z.node.cap]]) ∧
          Hid ((∀ V ∈ [x, y, z], IsV (fun b => W4.heap.size ≤ b ∧ b < W5.heap.size) W5 V ∧ Fine 3 V) ∧ Below W4.heap.size W4 W5) := (three_any n₀ a2 len2 cap2 l2 W4 (HL.out.bel (hw4.mono hn)) (by have := hw4.size; omega)).mono fun e W5 ⟨T, x, y, z, he, _, h1, _, h2⟩ => ⟨T, x, y, z, he, Lib.hid ⟨h1, h2⟩⟩
      have HB4 := Lib.hid (And.intro hb4 (And.intro hw4 (And.intro hs4 arr4)))
      have hg4 := hW4
      dsimp only [cells12] at hg4
      clear h3 hb4 hw4 hs4 arr4 hW4
      rw [hg4]
      clear hg4
      go_upto_region 4 with (go_at_call 40; refine hT2.mono ?_; clear hT2; rintro e W5 ⟨T2, x2, y2, z2, rfl, H5⟩)
      obtain ⟨W6, hW6⟩ : ∃ W6, (W5.alloc (.cells #[.int .i64 T2.k, .slice T2.a T2.len T2.cap] 27)).alloc (.cells (cells12 x2.node y2.node z2.node) 49) = W6 := ⟨_, rfl⟩
      have hb6 : Below W5.heap.size W5 W6 := by rw [← hW6]; exact ((Below.refl _ _).alloc (Nat.le_refl _) _).alloc (by simp) _
      have hs6 : W6.heap.size = W5.heap.size + 2 := by rw [← hW6]; simp
      have arrm : W6.heap[W5.heap.size + 1]? = some (.cells (cells12 x2.node y2.node z2.node) 49 (0, 0)) := by
        rw [← hW6]
        have := World.alloc_heap_new (W5.alloc (.cells #[.int .i64 T2.k, .slice T2.a T2.len T2.cap] 27)) (.cells (cells12 x2.node y2.node z2.node) 49)
        rw [World.size_alloc] at this
        exact this
      have arrl : W6.heap[W3.heap.size + 1]? = some (.cells (cells12 x.node y.node z.node) 49 (0, 0)) := by
        have h4 := HB4.out
        have h5 := H5.out.2
        have := h5.size
        exact (hb6.block _ (by omega)).trans ((h5.block _ (by omega)).trans h4.2.2.2)
      have hg6 := hW6
      dsimp only [cells12] at hg6
      clear hW6
      rw [hg6]
      clear hg6
      have HKp : Hid (∀ W, Below W6.heap.size W6 W → W.heap[W3.heap.size + 1]? = some (.cells (cells12 x.node y.node z.node) 49 (0, 0)) ∧ W.heap[W5.heap.size + 1]? = some (.cells (cells12 x2.node y2.node z2.node) 49 (0, 0))) := Lib.hid fun W hW => ⟨(hW.block _ (Array.getElem?_eq_some_iff.1 arrl).1).trans arrl, (hW.block _ (Array.getElem?_eq_some_iff.1 arrm).1).trans arrm⟩
      have hTu : ∀ W, Below W6.heap.size W6 W → W.heap[W6.heap.size]? = some (.cells #[.int .i64 z.node.k, .int .i64 z.node.n, .string z.node.s, .slice z.node.a z.node.len z.node.cap, .int .i64 y2.node.k, .int .i64 y2.node.n, .string y2.node.s, .slice y2.node.a y2.node.len y2.node.cap] 24 (0, 0)) → Calls Tryz.prog 41 #[.slice (some ⟨W6.heap.size, 0, none⟩) 2 2] W fun e w' => e = .returned (.agg #[.int .i64 2, .int .i64 0, .string ByteArray.empty, .slice (some ⟨W6.heap.size, 0, none⟩) 2 2]) ∧ Hid (Below W6.heap.size W6 w' ∧ w'.heap[W6.heap.size]? = some (.cells #[.int .i64 z.node.k, .int .i64 z.node.n, .string z.node.s, .slice z.node.a z.node.len z.node.cap, .int .i64 y2.node.k, .int .i64 y2.node.n, .string y2.node.s, .slice y2.node.a y2.node.len y2.node.cap] 24 (0, 0))) ∧ w'.cell? ⟨W3.heap.size + 1, 4, none⟩ = some (.int .i64 y.node.k) ∧ w'.cell? ⟨W3.heap.size + 1, 5, none⟩ = some (.int .i64 y.node.n) ∧ w'.cell? ⟨W3.heap.size + 1, 6, none⟩ = some (.string y.node.s) ∧ w'.cell? ⟨W3.heap.size + 1, 7, none⟩ = some (.slice y.node.a y.node.len y.node.cap) ∧ w'.cell? ⟨W3.heap.size + 1, 8, none⟩ = some (.int .i64 z.node.k) ∧ w'.cell? ⟨W3.heap.size + 1, 9, none⟩ = some (.int .i64 z.node.n) ∧ w'.cell? ⟨W3.heap.size + 1, 10, none⟩ = some (.string z.node.s) ∧ w'.cell? ⟨W3.heap.size + 1, 11, none⟩ = some (.slice z.node.a z.node.len z.node.cap) ∧ w'.cell? ⟨W5.heap.size + 1, 0, none⟩ = some (.int .i64 x2.node.k) ∧ w'.cell? ⟨W5.heap.size + 1, 1, none⟩ = some (.int .i64 x2.node.n) ∧ w'.cell? ⟨W5.heap.size + 1, 2, none⟩ = some (.string x2.node.s) ∧ w'.cell? ⟨W5.heap.size + 1, 3, none⟩ = some (.slice x2.node.a x2.node.len x2.node.cap) ∧ w'.frozen? ⟨W3.heap.size + 1, 4, none⟩ = false ∧ w'.frozen? ⟨W3.heap.size + 1, 5, none⟩ = false ∧ w'.frozen? ⟨W3.heap.size + 1, 6, none⟩ = false ∧ w'.frozen? ⟨W3.heap.size + 1, 7, none⟩ = false ∧ w'.frozen? ⟨W3.heap.size + 1, 8, none⟩ = false ∧ w'.frozen? ⟨W3.heap.size + 1, 9, none⟩ = false ∧ w'.frozen? ⟨W3.heap.size + 1, 10, none⟩ = false ∧ w'.frozen? ⟨W3.heap.size + 1, 11, none⟩ = false := by
        intro W hW hrow
        refine (Tuple_any _ _ _ W).mono ?_
        rintro e w' ⟨he, hb⟩
        have h7 := hW.trans (hb.mono hW.size)
        have hk := HKp.out w' h7
        have hl := (cells12_at hk.1).1
        have hf := (cells12_at hk.1).2
        have hm := (cells12_at hk.2).1
        exact ⟨he, Lib.hid ⟨h7, (hb.block _ (Array.getElem?_eq_some_iff.1 hrow).1).trans hrow⟩, hl 4, hl 5, hl 6, hl 7, hl 8, hl 9, hl 10, hl 11, hm 0, hm 1, hm 2, hm 3, hf 4 (by omega), hf 5 (by omega), hf 6 (by omega), hf 7 (by omega), hf 8 (by omega), hf 9 (by omega), hf 10 (by omega), hf 11 (by omega)⟩
      have HTu := Lib.hid hTu
      have cl := (cells12_at arrl).1
      have fl := (cells12_at arrl).2
      have cm := (cells12_at arrm).1
      have l4 := cl 4
      have f4 := fl 4 (by omega)
      have l5 := cl 5
      have f5 := fl 5 (by omega)
      have l6 := cl 6
      have f6 := fl 6 (by omega)
      have l7 := cl 7
      have f7 := fl 7 (by omega)
      have l8 := cl 8
      have f8 := fl 8 (by omega)
      have l9 := cl 9
      have f9 := fl 9 (by omega)
      have l10 := cl 10
      have f10 := fl 10 (by omega)
      have l11 := cl 11
      have f11 := fl 11 (by omega)
      have m0 := cm 0
      have m1 := cm 1
      have m2 := cm 2
      have m3 := cm 3
      have m4 := cm 4
      have m5 := cm 5
      have m6 := cm 6
      have m7 := cm 7
      simp only [cells12, List.getElem?_toArray, List.getElem?_cons_succ, List.getElem?_cons_zero] at l4 l5 l6 l7 l8 l9 l10 l11 m0 m1 m2 m3 m4 m5 m6 m7
      have l8' : ∀ o, (W6.alloc o).cell? _ = _ := fun o => Below.cell_al o l8
      have l9' : ∀ o, (W6.alloc o).cell? _ = _ := fun o => Below.cell_al o l9
      have l10' : ∀ o, (W6.alloc o).cell? _ = _ := fun o => Below.cell_al o l10
      have l11' : ∀ o, (W6.alloc o).cell? _ = _ := fun o => Below.cell_al o l11
      have m0' : ∀ o, (W6.alloc o).cell? _ = _ := fun o => Below.cell_al o m0
      have m1' : ∀ o, (W6.alloc o).cell? _ = _ := fun o => Below.cell_al o m1
      have m2' : ∀ o, (W6.alloc o).cell? _ = _ := fun o => Below.cell_al o m2
      have m3' : ∀ o, (W6.alloc o).cell? _ = _ := fun o => Below.cell_al o m3
      have m4' : ∀ o, (W6.alloc o).cell? _ = _ := fun o => Below.cell_al o m4
      have m5' : ∀ o, (W6.alloc o).cell? _ = _ := fun o => Below.cell_al o m5
      have m6' : ∀ o, (W6.alloc o).cell? _ = _ := fun o => Below.cell_al o m6
      have m7' : ∀ o, (W6.alloc o).cell? _ = _ := fun o => Below.cell_al o m7
      have H6 := Lib.hid (And.intro hb6 (And.intro hs6 (And.intro arrm arrl)))
      clear hTu cl fl cm hb6 hs6 arrm arrl
      go_region_with (go_at_call 41; refine (HTu.out _ ?_ ?_).mono ?_; (first | exact (Below.refl _ _).alloc (Nat.le_refl _) _ | exact ((Below.refl _ _).alloc (Nat.le_refl _) _).drew | exact ((Below.refl _ _).drew).alloc (Nat.le_refl _) _ | exact (((Below.refl _ _).drew).alloc (Nat.le_refl _) _).drew); exact World.alloc_heap_new W6 _; rintro e W7 ⟨rfl, H7, q4, q5, q6, q7, q8, q9, q10, q11, r0, r1, r2, r3, z4, z5, z6, z7, z8, z9, z10, z11⟩)
      all_goals (go_step; go_step; go_meet)
      all_goals
        have h4 := HB4.out
        have h5 := H5.out
        have h6 := H6.out
        have h7 := H7.out
        have h3 := H3.out
        have s5 := h5.2.size
        have s7 := h7.1.size
        have s3 := h3.2.size
        have hW57 : Below W5.heap.size W5 W7 := h6.1.trans (h7.1.mono (by omega))
        have hW37 : Below W3.heap.size W3 W7 := h4.1.trans ((h5.2.trans (hW57.mono s5)).mono (by omega))
        have kx : ∀ V ∈ [x, y, z], IsV (fun b => b < W7.heap.size ∧ b ≠ W3.heap.size + 1) W7 V ∧ Fine 3 V := fun V hV => ⟨(h3.1 V hV).1.kept (fun b hb => by omega) (fun b hb hl => hW37.block b hl), (h3.1 V hV).2⟩
        have kx2 : ∀ V ∈ [x2, y2, z2], IsV (fun b => b < W7.heap.size ∧ b ≠ W3.heap.size + 1) W7 V ∧ Fine 3 V := fun V hV => ⟨(h5.1 V hV).1.kept (fun b hb => by omega) (fun b hb hl => hW57.block b hl), (h5.1 V hV).2⟩
        have hk := (HKp.out W7 h7.1).1
        exact ⟨x, x2, _, Lib.hid (Q8.mixed hk (h3.2.trans (hW37.mono s3)) (by omega) h7.2 (by omega) (kx x (by simp)) (kx2 x2 (by simp)) (kx z (by simp)) (kx2 y2 (by simp)))⟩
  case rest =>
    obtain ⟨Wb, rfl⟩ : ∃ Wb : World, Wb = wc := ⟨_, rfl⟩
    obtain ⟨x', y', z', HQ⟩ := hcut
    have hbo : W3.heap.size + 1 < Wb.heap.size := (Array.getElem?_eq_some_iff.1 HQ.out.arr).1
    go_wp2_with fail
    have hst : R9 w (W3.heap.size + 1) Wb.heap.size x' y' z' Wb 0 #[.int .i64 0, .int .i64 0, .int .i64 0, .int .i64 0, .int .i64 0, .int .i64 0, .int .i64 0, .int .i64 0, .int .i64 0] (Wb.alloc (.cells #[.int .i64 0, .int .i64 0, .int .i64 0, .int .i64 0, .int .i64 0, .int .i64 0, .int .i64 0, .int .i64 0, .int .i64 0] 54)) :=
      ⟨World.alloc_heap_new Wb _, rfl, (Below.refl _ _).alloc (Nat.le_refl _) _, Nat.le_refl _, fun j hj => by omega⟩
    have HST := Lib.hid hst
    clear hst
    go_loopg [12] (3 : Nat) (fun g i wr => ∃ (n : Nat) (A : Array Value), g = 3 - n ∧ n ≤ 3 ∧ i = .int .i64 n ∧ R9 w (W3.heap.size + 1) Wb.heap.size x' y' z' Wb (n * 3) A wr)
    case atStart => exact ⟨0, _, rfl, by omega, rfl, HST.out⟩
    case round =>
      clear HST
      obtain ⟨n, A, rfl, hn3, rfl, R⟩ := hrel
      by_cases hn : n < 3
      · have HR := Lib.hid R
        have i0 : (0 : Int) ≤ (n : Int) := by omega
        have i1 : (n : Int) < 3 := by omega
        clear R
        go_wp2_with fail
        go_loopg [13] (3 : Nat) (fun g i wq => ∃ (m : Nat) (A : Array Value), g = 3 - m ∧ m ≤ 3 ∧ i = .int .i64 m ∧ R9 w (W3.heap.size + 1) Wb.heap.size x' y' z' Wb (n * 3 + m) A wq)
        case atStart => exact ⟨0, _, rfl, by omega, rfl, HR.out⟩
        case round =>
          clear HR
          obtain ⟨m, A, rfl, hm3, rfl, R⟩ := hrel
          by_cases hm : m < 3
          · have j0 : (0 : Int) ≤ (m : Int) := by omega
            have j1 : (m : Int) < 3 := by omega
            have hcn := HQ.out.at R.bel n hn
            have hcm := HQ.out.at R.bel m hm
            obtain ⟨V, hV⟩ : ∃ V, Lf x' y' z' n = V := ⟨_, rfl⟩
            obtain ⟨U, hU⟩ : ∃ U, Lf x' y' z' m = U := ⟨_, rfl⟩
            have gV := HQ.out.good V (by rw [← hV]; exact Lf_mem _ _ _ _)
            have gU := HQ.out.good U (by rw [← hU]; exact Lf_mem _ _ _ _)
            rw [hV] at hcn
            rw [hU] at hcm
            have hCmp : Hid (∀ W, Below Wb.heap.size Wb W → Calls Tryz.prog 25 #[V.node.val, U.node.val] W fun e W' => e = .returned (.tuple #[.int .i64 (ordF V U), .int .i64 0]) ∧ Hid (Below W.heap.size W W') ∧ Hid (Below Wb.heap.size Wb W')) := Lib.hid fun W hW =>
              (Compare_ok V U gV.2.1 gU.2.1 gV.2.2.1 gU.2.2.1 gV.2.2.2 gU.2.2.2 Wb.heap.size W (gV.1.bel hW) (gU.1.bel hW) hW.size).mono fun e W' h => ⟨h.1, Lib.hid h.2, Lib.hid (hW.trans (h.2.mono hW.size))⟩
            have hSam : Hid (∀ W, Below Wb.heap.size Wb W → Calls Tryz.prog 23 #[V.node.val, U.node.val] W fun e W' => e = .returned (.bool (sameF V U)) ∧ Hid (Below W.heap.size W W') ∧ Hid (Below Wb.heap.size Wb W')) := Lib.hid fun W hW =>
              (same_any 6 V U gV.2.2.1 Wb.heap.size W (gV.1.bel hW) (gU.1.bel hW) hW.size).mono fun e W' h => ⟨h.1, Lib.hid h.2, Lib.hid (hW.trans (h.2.mono hW.size))⟩
            have hzr := ordF_zero V U
            have hrg := ordF_range V U
            obtain ⟨r, hr⟩ : ∃ r, ordF V U = r := ⟨_, rfl⟩
            obtain ⟨q, hq⟩ : ∃ q, sameF V U = q := ⟨_, rfl⟩
            rw [hr] at hCmp hzr hrg
            rw [hq] at hSam hzr
            dsimp only [Node.val] at hCmp hSam
            have HVU := Lib.hid (And.intro hV (And.intro hU hr))
            have HKc : Hid (∀ W, Below Wb.heap.size Wb W → (W.cell? ⟨W3.heap.size + 1, n * 4, none⟩ = some (.int .i64 V.node.k) ∧ W.cell? ⟨W3.heap.size + 1, n * 4 + 1, none⟩ = some (.int .i64 V.node.n) ∧ W.cell? ⟨W3.heap.size + 1, n * 4 + 2, none⟩ = some (.string V.node.s) ∧ W.cell? ⟨W3.heap.size + 1, n * 4 + 3, none⟩ = some (.slice V.node.a V.node.len V.node.cap)) ∧
                (W.cell? ⟨W3.heap.size + 1, m * 4, none⟩ = some (.int .i64 U.node.k) ∧ W.cell? ⟨W3.heap.size + 1, m * 4 + 1, none⟩ = some (.int .i64 U.node.n) ∧ W.cell? ⟨W3.heap.size + 1, m * 4 + 2, none⟩ = some (.string U.node.s) ∧ W.cell? ⟨W3.heap.size + 1, m * 4 + 3, none⟩ = some (.slice U.node.a U.node.len U.node.cap))) := Lib.hid fun W hW => by
              have h1 := HQ.out.at hW n hn
              have h2 := HQ.out.at hW m hm
              rw [hV] at h1
              rw [hU] at h2
              exact ⟨h1, h2⟩
            obtain ⟨c0, c1, c2, c3⟩ := hcn
            obtain ⟨d0, d1, d2, d3⟩ := hcm
            have HR := Lib.hid R
            clear R hV hU gV gU hr hq
            go_upto_region 12 with fail
            go_cut [14, 15] (fun s14 s15 wx => s14 = .int .i64 r ∧ s15 = .int .i64 0 ∧ Hid (R9 w (W3.heap.size + 1) Wb.heap.size x' y' z' Wb (n * 3 + m) A wx))
            case first =>
              go_region_held3 (fun w' => w'.cell? ⟨W3.heap.size + 1, n * 4, none⟩ = some (.int .i64 V.node.k) ∧ w'.cell? ⟨W3.heap.size + 1, n * 4 + 1, none⟩ = some (.int .i64 V.node.n) ∧ w'.cell? ⟨W3.heap.size + 1, n * 4 + 2, none⟩ = some (.string V.node.s) ∧ w'.cell? ⟨W3.heap.size + 1, n * 4 + 3, none⟩ = some (.slice V.node.a V.node.len V.node.cap) ∧
                  w'.cell? ⟨W3.heap.size + 1, m * 4, none⟩ = some (.int .i64 U.node.k) ∧ w'.cell? ⟨W3.heap.size + 1, m * 4 + 1, none⟩ = some (.int .i64 U.node.n) ∧ w'.cell? ⟨W3.heap.size + 1, m * 4 + 2, none⟩ = some (.string U.node.s) ∧ w'.cell? ⟨W3.heap.size + 1, m * 4 + 3, none⟩ = some (.slice U.node.a U.node.len U.node.cap))
                (go_keep)
                (first
                  | (go_at_call 25; refine (hCmp.out _ ?_).mono ?_; (first | exact HR.out.bel | exact HR.out.bel.drew); rintro e W4 ⟨rfl, H4, H4'⟩; obtain ⟨⟨s0, s1, s2, s3⟩, s4, s5, s6, s7⟩ := HKc.out _ H4'.out))
              all_goals (go_step; go_step; go_meet; exact ⟨rfl, rfl, Lib.hid (by first | exact HR.out.keep H4.out | exact (HR.out.keep ((Below.refl _ _).drew)).keep H4.out)⟩)
            case rest =>
              obtain ⟨rfl, rfl, HR2⟩ := hcut
              obtain ⟨⟨c0, c1, c2, c3⟩, d0, d1, d2, d3⟩ := HKc.out _ HR2.out.bel
              go_upto_region 13 with fail
              go_cut [77] (fun s77 wx => s77 = .bool false ∧ Hid (R9 w (W3.heap.size + 1) Wb.heap.size x' y' z' Wb (n * 3 + m) A wx))
              case first =>
                have HR2' := HR2
                have hcase : (r = 0 ∧ q = true) ∨ (r = 1 ∧ q = false) ∨ (r = -1 ∧ q = false) := by
                  cases q
                  · have : r ≠ 0 := fun e => by have := hzr.1 e; cases this
                    right
                    rcases (show r = 1 ∨ r = -1 by omega) with h | h
                    · exact .inl ⟨h, rfl⟩
                    · exact .inr ⟨h, rfl⟩
                  · exact .inl ⟨hzr.2 rfl, rfl⟩
                clear hzr hrg
                rcases hcase with ⟨rfl, rfl⟩ | ⟨rfl, rfl⟩ | ⟨rfl, rfl⟩
                all_goals
                  go_region_held3 (fun w' => w'.cell? ⟨W3.heap.size + 1, n * 4, none⟩ = some (.int .i64 V.node.k) ∧ w'.cell? ⟨W3.heap.size + 1, n * 4 + 1, none⟩ = some (.int .i64 V.node.n) ∧ w'.cell? ⟨W3.heap.size + 1, n * 4 + 2, none⟩ = some (.string V.node.s) ∧ w'.cell? ⟨W3.heap.size + 1, n * 4 + 3, none⟩ = some (.slice V.node.a V.node.len V.node.cap) ∧
                      w'.cell? ⟨W3.heap.size + 1, m * 4, none⟩ = some (.int .i64 U.node.k) ∧ w'.cell? ⟨W3.heap.size + 1, m * 4 + 1, none⟩ = some (.int .i64 U.node.n) ∧ w'.cell? ⟨W3.heap.size + 1, m * 4 + 2, none⟩ = some (.string U.node.s) ∧ w'.cell? ⟨W3.heap.size + 1, m * 4 + 3, none⟩ = some (.slice U.node.a U.node.len U.node.cap))
                    (go_keep)
                    (first
                      | (go_at_call 42; refine (Lies_ok _ (by omega) (by omega) _).mono ?_; rintro e w' ⟨rfl, rfl⟩)
                      | (go_at_call 23; refine (hSam.out _ ?_).mono ?_; (first | exact HR2.out.bel | exact HR2.out.bel.drew); rintro e W4 ⟨rfl, H4, H4'⟩; obtain ⟨⟨s0, s1, s2, s3⟩, s4, s5, s6, s7⟩ := HKc.out _ H4'.out))
                  all_goals (go_step; go_step; go_meet; exact ⟨rfl, Lib.hid (by first | exact HR2.out.keep H4.out | exact (HR2.out.keep ((Below.refl _ _).drew)).keep H4.out)⟩)
              case rest =>
                obtain ⟨rfl, HR3⟩ := hcut
                obtain ⟨⟨v, hv⟩, fz⟩ := HR3.out.cell (n * 3 + m) (by omega)
                clear hzr hrg
                go_wp2_with fail
                go_roundg (3 - (m + 1))
                case measure => omega
                case rel =>
                  have hvu := HVU.out
                  exact ⟨m + 1, _, rfl, by omega, by go_num, HR3.out.put (by omega) (by rw [show (n * 3 + m) / 3 = n by omega, show (n * 3 + m) % 3 = m by omega, hvu.1, hvu.2.1, hvu.2.2])⟩
          · have HR := Lib.hid R
            clear R
            go_wp2_with fail
            go_roundg (3 - (n + 1))
            case measure => omega
            case rel => exact ⟨n + 1, A, rfl, by omega, by go_num, by have := HR.out; rw [show (n + 1) * 3 = n * 3 + m by omega]; exact this⟩
      · obtain rfl : n = 3 := by omega
        have HR := Lib.hid R
        clear R
        go_wp2_with fail
        go_loopg [16] (3 : Nat) (fun g i wq => ∃ n : Nat, g = 3 - n ∧ n ≤ 3 ∧ i = .int .i64 n ∧ Hid (R9 w (W3.heap.size + 1) Wb.heap.size x' y' z' Wb 9 A wq))
        case atStart => exact ⟨0, rfl, by omega, rfl, HR⟩
        case round =>
          clear HR
          obtain ⟨n, rfl, hn3, rfl, HR⟩ := hrel
          by_cases hn : n < 3
          · have i0 : (0 : Int) ≤ (n : Int) := by omega
            have i1 : (n : Int) < 3 := by omega
            go_wp2_with fail
            go_loopg [17] (3 : Nat) (fun g i wq => ∃ m : Nat, g = 3 - m ∧ m ≤ 3 ∧ i = .int .i64 m ∧ Hid (R9 w (W3.heap.size + 1) Wb.heap.size x' y' z' Wb 9 A wq))
            case atStart => exact ⟨0, rfl, by omega, rfl, HR⟩
            case round =>
              clear HR
              obtain ⟨m, rfl, hm3, rfl, HR⟩ := hrel
              by_cases hm : m < 3
              · have j0 : (0 : Int) ≤ (m : Int) := by omega
                have j1 : (m : Int) < 3 := by omega
                go_wp2_with fail
                go_loopg [18] (3 : Nat) (fun g i wq => ∃ e : Nat, g = 3 - e ∧ e ≤ 3 ∧ i = .int .i64 e ∧ Hid (R9 w (W3.heap.size + 1) Wb.heap.size x' y' z' Wb 9 A wq))
                case atStart => exact ⟨0, rfl, by omega, rfl, HR⟩
                case round =>
                  clear HR
                  obtain ⟨e, rfl, he3, rfl, HR⟩ := hrel
                  by_cases he : e < 3
                  · have k0 : (0 : Int) ≤ (e : Int) := by omega
                    have k1 : (e : Int) < 3 := by omega
                    have v1 := HR.out.val n m hn hm
                    have v2 := HR.out.val m n hm hn
                    have v3 := HR.out.val m e hm he
                    have v4 := HR.out.val n e hn he
                    have r1 := ordF_range (Lf x' y' z' n) (Lf x' y' z' m)
                    have r3 := ordF_range (Lf x' y' z' m) (Lf x' y' z' e)
                    have r4 := ordF_range (Lf x' y' z' n) (Lf x' y' z' e)
                    have r2 := ordF_anti (Lf x' y' z' n) (Lf x' y' z' m)
                    have tr := (ordF_trn (Lf x' y' z' n) (Lf x' y' z' m) (Lf x' y' z' e)).le
                    generalize ordF (Lf x' y' z' n) (Lf x' y' z' m) = p at v1 r1 r2 tr
                    generalize ordF (Lf x' y' z' m) (Lf x' y' z' n) = q at v2 r2
                    generalize ordF (Lf x' y' z' m) (Lf x' y' z' e) = s at v3 r3 tr
                    generalize ordF (Lf x' y' z' n) (Lf x' y' z' e) = t at v4 r4 tr
                    obtain rfl : q = -p := by omega
                    have htr : ¬ (p ≤ 0 ∧ s ≤ 0 ∧ 0 < t) := fun h => by have := tr h.1 h.2.1; omega
                    have p0 : -1 ≤ p := r1.1
                    have p1 : p ≤ 1 := r1.2
                    have HR' := HR
                    have hcs0 := r3
                    clear r1 r2 r4 tr
                    have hcs : p = 1 ∨ (p = 0 ∧ s = 1) ∨ (p = 0 ∧ s = 0 ∧ t ≤ 0) ∨ (p = 0 ∧ s = -1 ∧ t ≤ 0) ∨ (p = -1 ∧ s = 1) ∨ (p = -1 ∧ s = 0 ∧ t ≤ 0) ∨ (p = -1 ∧ s = -1 ∧ t ≤ 0) := by omega
                    clear htr p0 p1
                    rcases hcs with rfl | ⟨rfl, rfl⟩ | ⟨rfl, rfl, ht⟩ | ⟨rfl, rfl, ht⟩ | ⟨rfl, rfl⟩ | ⟨rfl, rfl, ht⟩ | ⟨rfl, rfl, ht⟩
                    · try simp only [Int.neg_neg, Int.neg_zero, Int.reduceNeg] at v1 v2
                      go_upto_region 25 with fail
                      go_quiet (fail)
                      go_wp2_with fail
                      go_roundg (3 - (e + 1))
                      case measure => omega
                      case rel => exact ⟨e + 1, rfl, by omega, by go_num, Lib.hid (by first | exact HR.out | exact HR.out.keep ((Below.refl _ _).drew) | exact HR.out.keep (below_drewN _ _))⟩
                    · try simp only [Int.neg_neg, Int.neg_zero, Int.reduceNeg] at v1 v2
                      go_upto_region 25 with fail
                      go_quiet (fail)
                      go_wp2_with fail
                      go_roundg (3 - (e + 1))
                      case measure => omega
                      case rel => exact ⟨e + 1, rfl, by omega, by go_num, Lib.hid (by first | exact HR.out | exact HR.out.keep ((Below.refl _ _).drew) | exact HR.out.keep (below_drewN _ _))⟩
                    · try simp only [Int.neg_neg, Int.neg_zero, Int.reduceNeg] at v1 v2
                      go_upto_region 25 with fail
                      go_quiet (fail)
                      go_wp2_with fail
                      go_roundg (3 - (e + 1))
                      case measure => omega
                      case rel => exact ⟨e + 1, rfl, by omega, by go_num, Lib.hid (by first | exact HR.out | exact HR.out.keep ((Below.refl _ _).drew) | exact HR.out.keep (below_drewN _ _))⟩
                    · try simp only [Int.neg_neg, Int.neg_zero, Int.reduceNeg] at v1 v2
                      go_upto_region 25 with fail
                      go_quiet (fail)
                      go_wp2_with fail
                      go_roundg (3 - (e + 1))
                      case measure => omega
                      case rel => exact ⟨e + 1, rfl, by omega, by go_num, Lib.hid (by first | exact HR.out | exact HR.out.keep ((Below.refl _ _).drew) | exact HR.out.keep (below_drewN _ _))⟩
                    · try simp only [Int.neg_neg, Int.neg_zero, Int.reduceNeg] at v1 v2
                      go_upto_region 25 with fail
                      go_quiet (fail)
                      go_wp2_with fail
                      go_roundg (3 - (e + 1))
                      case measure => omega
                      case rel => exact ⟨e + 1, rfl, by omega, by go_num, Lib.hid (by first | exact HR.out | exact HR.out.keep ((Below.refl _ _).drew) | exact HR.out.keep (below_drewN _ _))⟩
                    · try simp only [Int.neg_neg, Int.neg_zero, Int.reduceNeg] at v1 v2
                      go_upto_region 25 with fail
                      go_quiet (fail)
                      go_wp2_with fail
                      go_roundg (3 - (e + 1))
                      case measure => omega
                      case rel => exact ⟨e + 1, rfl, by omega, by go_num, Lib.hid (by first | exact HR.out | exact HR.out.keep ((Below.refl _ _).drew) | exact HR.out.keep (below_drewN _ _))⟩
                    · try simp only [Int.neg_neg, Int.neg_zero, Int.reduceNeg] at v1 v2
                      go_upto_region 25 with fail
                      go_quiet (fail)
                      go_wp2_with fail
                      go_roundg (3 - (e + 1))
                      case measure => omega
                      case rel => exact ⟨e + 1, rfl, by omega, by go_num, Lib.hid (by first | exact HR.out | exact HR.out.keep ((Below.refl _ _).drew) | exact HR.out.keep (below_drewN _ _))⟩
                  · go_wp2_with fail
                    go_roundg (3 - (m + 1))
                    case measure => omega
                    case rel => exact ⟨m + 1, rfl, by omega, by go_num, HR⟩
              · go_wp2_with fail
                go_roundg (3 - (n + 1))
                case measure => omega
                case rel => exact ⟨n + 1, rfl, by omega, by go_num, HR⟩
          · go_wp2_with (go_at_call 24; refine (HV.out _ (HQ.out.bel.trans (HR.out.bel.mono HQ.out.bel.size))).mono ?_; rintro e W' ⟨rfl, hb⟩)
            go_ret
            exact ⟨rfl, (HQ.out.bel.trans (HR.out.bel.mono HQ.out.bel.size)).trans (hb.mono (by have := HR.out.bel.size; have := HQ.out.bel.size; omega))⟩
end Go.Proofs.YtolnkacccdkaoaaGreatDoor
