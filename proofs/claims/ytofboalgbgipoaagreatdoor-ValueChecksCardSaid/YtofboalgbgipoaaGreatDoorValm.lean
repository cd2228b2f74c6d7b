/- Values that numbers make: texts; and all of them. -/
import Derived.Test.YtofboalgbgipoaaGreatDoorVall
set_option linter.all false
namespace Go.Proofs.YtofboalgbgipoaaGreatDoor
open Go.RowKit Go.Shelf
attribute [local go_sem] Oper.semAt_some

theorem Turn3 (n : Int) (W : World) : Calls Tryz.prog 59 #[.int .i64 n, .int .i64 3] W fun e w' => w' = W ∧ (e = .returned (.int .i64 0) ∨ e = .returned (.int .i64 1) ∨ e = .returned (.int .i64 2)) := by
  refine (Turn_any n 3 (by omega) (by omega) W).mono ?_
  rintro e w' ⟨rfl, rfl⟩
  have := turnF_lt n (m := 3) (by omega)
  refine ⟨rfl, ?_⟩
  rcases (show turnF n 3 = 0 ∨ turnF n 3 = 1 ∨ turnF n 3 = 2 by omega) with h | h | h <;> rw [h] <;> simp

theorem enc97 : (Utf8.encode 97).size = 1 ∧ (Utf8.encode 97).data.toList.all okCh = true := by constructor <;> kernel_rfl
theorem enc98 : (Utf8.encode 98).size = 1 ∧ (Utf8.encode 98).data.toList.all okCh = true := by constructor <;> kernel_rfl
theorem enc99 : (Utf8.encode 99).size = 1 ∧ (Utf8.encode 99).data.toList.all okCh = true := by constructor <;> kernel_rfl
theorem okApp {s u : ByteArray} (hs : s.data.toList.all okCh = true) (hu : u.data.toList.all okCh = true) : (s ++ u).data.toList.all okCh = true := by
  rw [ByteArray.data_append]
  simp only [Array.toList_append, List.all_append, hs, hu, Bool.and_self]
theorem sizeApp (s u : ByteArray) : (s ++ u).size = s.size + u.size := by simp
set_option maxRecDepth 100000 in
set_option maxHeartbeats 1000000 in
theorem Made_text (n₀ : Nat) (a : Option Addr) (len cap : Nat) (l : List Int) (d : Nat) (ta : Option Addr) (tn tc : Nat) (at_ : Int) (w : World) (h0 : 0 ≤ at_) (h1 : at_ ≤ 1000000) (hl : IsInts n₀ w a len l) (hn : n₀ ≤ w.heap.size) :
    Calls Tryz.prog 43 #[.agg #[.int .i64 1, .slice ta tn tc], .slice a len cap, .int .i64 at_] w (MadeR (d + 1) (.mk 1 ta tn tc []) at_ w) := by
  obtain ⟨W2, hW2⟩ : ∃ W2, (w.alloc (.cells #[.int .i64 1, .slice ta tn tc] 27)).alloc (.cells #[.int .i64 0, .int .i64 0, .string ByteArray.empty, .slice none 0 0] 24) = W2 := ⟨_, rfl⟩
  obtain ⟨hs2, hb2, typ2, res2⟩ := begins _ _ _ _ w W2 hW2
  have hN := Nth_any n₀ a len cap l at_ W2 (hl.bel (hb2.mono hn))
  have hT := fun W => Turn_any (nthF l at_) 4 (by omega) (by omega) W
  have ht := turnF_lt (nthF l at_) (m := 4) (by omega)
  obtain ⟨t, htt⟩ : ∃ t, turnF (nthF l at_) 4 = t := ⟨_, rfl⟩
  rw [htt] at hT ht
  have HR := Lib.hid res2
  have HB := Lib.hid hb2
  rw [← hW2] at hN
  have HW := Lib.hid hW2
  clear htt hl hb2 res2 typ2 hW2 hs2
  go_enter Tryz.func43, Tryz.ntmps43
  go_wp2_with (first | (go_at_call 60; refine hN.mono ?_; clear hN; rintro e w' ⟨rfl, rfl⟩) | (go_at_call 59; refine (hT _).mono ?_; clear hT; rintro e w' ⟨rfl, rfl⟩))
  rw [HW.out]
  go_loopw [8, 9, 10] (fun p8 p9 p10 wr => ∃ (n : Int) (s : ByteArray) (j : Int), p8 = .int .i64 n ∧ p9 = .string s ∧ p10 = .int .i64 j ∧ 0 ≤ j ∧ (s.size : Int) + j ≤ 3 ∧ s.data.toList.all okCh = true ∧ wr = W2) (fun _ _ p10 _ => (intOf p10).toNat)
  case atStart => exact ⟨_, ByteArray.empty, t, rfl, rfl, rfl, ht.1, by simp; omega, rfl, rfl⟩
  case round =>
    obtain ⟨n, s, j, rfl, rfl, rfl, hj, hsj, hok, rfl⟩ := hrel
    have HK := Lib.hid hok
    clear hok
    by_cases hj0 : 0 < j
    · have hss : s.size ≤ 2 := by omega
      have z97 := enc97.1
      have z98 := enc98.1
      have z99 := enc99.1
      have hm1 : s.size + 1 ≤ maxLen := by unfold maxLen; omega
      go_wp2_with (go_at_call 59; refine (Turn3 _ _).mono ?_; rintro e w' ⟨rfl, rfl | rfl | rfl⟩)
      · exact ⟨⟨_, _, _, rfl, rfl, rfl, by omega, by rw [sizeApp]; omega, okApp HK.out enc97.2, trivial⟩, by simp [intOf]; omega⟩
      · exact ⟨⟨_, _, _, rfl, rfl, rfl, by omega, by rw [sizeApp]; omega, okApp HK.out enc98.2, trivial⟩, by simp [intOf]; omega⟩
      · exact ⟨⟨_, _, _, rfl, rfl, rfl, by omega, by rw [sizeApp]; omega, okApp HK.out enc99.2, trivial⟩, by simp [intOf]; omega⟩
    · have hX : Calls Tryz.prog 36 #[.string s] wr fun e W3 => e = .returned (.agg #[.int .i64 1, .int .i64 0, .string s, .slice none 0 0]) ∧ Hid (Below wr.heap.size wr W3) ∧
          ((W3.cell? ⟨w.heap.size + 1, 0, none⟩ = some (.int .i64 0) ∧ W3.cell? ⟨w.heap.size + 1, 1, none⟩ = some (.int .i64 0) ∧ W3.cell? ⟨w.heap.size + 1, 2, none⟩ = some (.string ByteArray.empty) ∧ W3.cell? ⟨w.heap.size + 1, 3, none⟩ = some (.slice none 0 0)) ∧
          (W3.frozen? ⟨w.heap.size + 1, 0, none⟩ = false ∧ W3.frozen? ⟨w.heap.size + 1, 1, none⟩ = false ∧ W3.frozen? ⟨w.heap.size + 1, 2, none⟩ = false ∧ W3.frozen? ⟨w.heap.size + 1, 3, none⟩ = false)) :=
        (Text_any s wr).mono fun e W3 ⟨he, hb⟩ => ⟨he, Lib.hid hb, cells4 ((hb.block _ (Array.getElem?_eq_some_iff.1 HR.out).1).trans HR.out)⟩
      have HS := Lib.hid hsj
      clear hsj
      go_wp2_with (go_at_call 36; refine hX.mono ?_; clear hX; rintro e W3 ⟨rfl, hb3, ⟨c0, c1, c2, c3⟩, f0, f1, f2, f3⟩)
      have hb3' := hb3.out
      have hsj := HS.out
      have hr4 := setAll4 (a' := .int .i64 1) (b' := .int .i64 0) (c' := .string s) (d' := .slice none 0 0) ((hb3'.block _ (Array.getElem?_eq_some_iff.1 HR.out).1).trans HR.out)
      have hcp := costN_pos (d + 1)
      refine ⟨rfl, .tuple #[Node.val ⟨1, 0, s, none, 0, 0⟩, .int .i64 (at_ + 1)], ?_, .mk ⟨1, 0, s, none, 0, 0⟩ [], at_ + 1, rfl, by omega, by omega,
        .mk _ _ rfl (by show s.size ≤ maxLen; unfold maxLen; omega) (by simp) (fun i c hi => by simp at hi) (fun c hc => by simp at hc), ⟨Fine.leaf d _ ?_ (by show s.size ≤ 100; omega) (by simp), .text _ _ _ _ _ _ rfl⟩, below4 (HB.out.trans (hb3'.mono HB.out.size)) (by omega)⟩
      · simp [results, Tryz.f43, go_sem, World.cell?, hr4, Node.val]
      · have hk := HK.out
        have h100 : s.data.toList.length ≤ 100 := by rw [Array.length_toList]; show s.size ≤ 100; omega
        simp only [okNode, okText]
        simp [hk, h100]
        try omega

theorem Made_any (n₀ : Nat) (a : Option Addr) (len cap : Nat) (l : List Int) : ∀ (d : Nat) (T : TT) (S : Nat → Prop) (at_ : Int) (w : World), T.ok d → 0 ≤ at_ → at_ + costN d ≤ 1000000 → IsInts n₀ w a len l → n₀ ≤ w.heap.size → (∀ b, S b → b < w.heap.size) → IsTT S w T →
    Calls Tryz.prog 43 #[.agg #[.int .i64 T.k, T.row], .slice a len cap, .int .i64 at_] w (MadeR d T at_ w) := by
  intro d
  induction d with
  | zero => intro T S at_ w hok; cases hok
  | succ d ih =>
    intro T S at_ w hok h0 h1 hl hn hS hT
    have hcp := costN_pos (d + 1)
    have hcd : (costN (d + 1) : Int) = 1 + 3 * costN d := by simp [costN]
    have key : ∀ (kids : List TT) (k : Int) (ta : Option Addr) (tn tc : Nat), IsTT S w (.mk k ta tn tc kids) → (∀ c ∈ kids, c.ok d) → ∀ c ∈ kids, ∀ q W, at_ + 1 ≤ q → q ≤ at_ + 1 + 2 * costN d → Below w.heap.size w W → Calls Tryz.prog 43 #[.agg #[.int .i64 c.k, c.row], .slice a len cap, .int .i64 q] W (MadeR d c q W) := by
      intro kids k ta tn tc hTT hk c hc q W hq0 hq1 hb
      cases hTT with
      | mk _ _ _ _ _ _ _ _ hkk =>
        exact ih c S q W (hk c hc) (by omega) (by omega) (hl.bel (hb.mono hn)) (by have := hb.size; omega) (fun b hSb => by have := hS b hSb; have := hb.size; omega) ((hkk c hc).kept (fun _ h => h) (fun b hSb hlt => hb.block b hlt))
    cases hok with
    | int _ ta tc => exact Made_int n₀ a len cap l d ta 0 tc at_ w h0 (by omega) hl hn
    | text _ ta tc => exact Made_text n₀ a len cap l d ta 0 tc at_ w h0 (by omega) hl hn
    | tuple _ ta tn tc kids h3 hk => exact Made_tuple n₀ a len cap l d S ta tn tc kids at_ w h0 h1 hl hn h3 hS hT (key kids 2 ta tn tc hT hk)
    | sum _ ta tn tc kids h1' h3 hk => exact Made_sum n₀ a len cap l d S ta tn tc kids at_ w h0 (by omega) hl hn h1' h3 hS hT (fun c hc W hb => key kids 3 ta tn tc hT hk c hc (at_ + 1) W (by omega) (by omega) hb)
end Go.Proofs.YtofboalgbgipoaaGreatDoor
