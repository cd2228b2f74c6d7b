/- The least value of a type, as the program makes it: the walk. -/
import Derived.Test.YtofboalgbgipoaaGreatDoorLstc
set_option linter.all false
namespace Go.Proofs.YtofboalgbgipoaaGreatDoor
open Go.RowKit Go.Shelf
attribute [local go_sem] Oper.semAt_some

theorem list_one (x : Node) (W3 : World) (R : Nat) (t : TypeId) (a b c d : Value) (h : W3.heap[R]? = some (.cells #[a, b, c, d] t (0, 0))) :
    Calls Tryz.prog 51 #[.slice (some ⟨W3.heap.size, 0, none⟩) 1 1] (W3.alloc (.cells #[.int .i64 x.k, .int .i64 x.n, .string x.s, .slice x.a x.len x.cap] 24)) fun e W5 => e = .returned (.slice (some ⟨W3.heap.size + 1, 0, none⟩) 1 1) ∧
      Hid (W5.heap[W3.heap.size + 1]? = some (.cells (nodeCells x).toArray 24 (0, 0)) ∧ W5.heap.size = W3.heap.size + 2 ∧ Below W3.heap.size W3 W5 ∧ W5.heap[R]? = some (.cells #[a, b, c, d] t (0, 0))) ∧
      ((W5.cell? ⟨R, 0, none⟩ = some a ∧ W5.cell? ⟨R, 1, none⟩ = some b ∧ W5.cell? ⟨R, 2, none⟩ = some c ∧ W5.cell? ⟨R, 3, none⟩ = some d) ∧ (W5.frozen? ⟨R, 0, none⟩ = false ∧ W5.frozen? ⟨R, 1, none⟩ = false ∧ W5.frozen? ⟨R, 2, none⟩ = false ∧ W5.frozen? ⟨R, 3, none⟩ = false)) := by
  have hnew : (W3.alloc (.cells #[.int .i64 x.k, .int .i64 x.n, .string x.s, .slice x.a x.len x.cap] 24)).heap[W3.heap.size]? = some (.cells #[.int .i64 x.k, .int .i64 x.n, .string x.s, .slice x.a x.len x.cap] 24 (0, 0)) := World.alloc_heap_new W3 _
  have hb : Below W3.heap.size W3 (W3.alloc (.cells #[.int .i64 x.k, .int .i64 x.n, .string x.s, .slice x.a x.len x.cap] 24)) := (Below.refl _ _).alloc (Nat.le_refl _) _
  have h1 := list_any 1 W3.heap.size 0 1 (nodeCells x) _ (by omega) (by omega) rfl (fun j v hj => by
    rw [Nat.zero_add]
    unfold World.cell?
    dsimp only
    rw [hnew]
    simpa [nodeCells] using hj) (fun v hv => by
    simp [nodeCells] at hv
    rcases hv with rfl | rfl | rfl | rfl <;> rfl)
  rw [World.size_alloc] at h1
  refine h1.mono ?_
  rintro e W5 ⟨rfl, h2, h3, h4⟩
  have hb5 : Below W3.heap.size W3 W5 := hb.trans (h4.mono (by omega))
  have hR := (hb5.block _ (Array.getElem?_eq_some_iff.1 h).1).trans h
  exact ⟨rfl, Lib.hid ⟨h2, by omega, hb5, hR⟩, cells4 hR⟩
/-- What holds in the loop over a tuple's parts, behind k rounds. -/
structure LsR (w : World) (ta : Option Addr) (tl tc : Nat) (m : List YT) (k : Nat) (l : List LT) (W : World) : Prop where
  room : Room (w.heap.size + 1 + 1) k l W
  tb : W.heap[w.heap.size]? = some (.cells #[.int .i64 2, .slice ta tl tc] 27 (0, 0))
  rb : W.heap[w.heap.size + 1]? = some (.cells #[.int .i64 0, .int .i64 0, .string ByteArray.empty, .slice none 0 0] 24 (0, 0))
  bel : Below w.heap.size w W
  siz : w.heap.size + 3 ≤ W.heap.size
  kids : ∀ c ∈ l, IsV (fun b => w.heap.size + 3 ≤ b ∧ b < W.heap.size) W c
  of : ∀ (i : Nat) (c : LT) (t : YT), l[i]? = some c → m[i]? = some t → LeastOf c t
theorem LsR.keep {w : World} {ta : Option Addr} {tl tc : Nat} {m : List YT} {k : Nat} {l : List LT} {W W' : World} (h : LsR w ta tl tc m k l W) (hb : Below W.heap.size W W') : LsR w ta tl tc m k l W' := by
  have hs := h.siz
  have h5 := hb.size
  exact ⟨h.room.keep hb, (hb.block _ (by omega)).trans h.tb, (hb.block _ (by omega)).trans h.rb, h.bel.trans (hb.mono (by omega)), by omega, fun c hc => (h.kids c hc).kept (fun b hb' => ⟨hb'.1, by omega⟩) (fun b hb' hl => hb.block b hl), h.of⟩
theorem LsR.put {w : World} {ta : Option Addr} {tl tc : Nat} {m : List YT} {k : Nat} {l : List LT} {W : World} {c : LT} {t : YT} (h : LsR w ta tl tc m k l W) (hk : k < 8) (hV : IsV (fun b => w.heap.size + 3 ≤ b ∧ b < W.heap.size) W c) (ht : m[k]? = some t) (hc : LeastOf c t) :
    LsR w ta tl tc m (k + 1) (l ++ [c]) ((((W.setCell ⟨w.heap.size + 1 + 1, k * 4, none⟩ (.int .i64 c.node.k)).setCell ⟨w.heap.size + 1 + 1, k * 4 + 1, none⟩ (.int .i64 c.node.n)).setCell ⟨w.heap.size + 1 + 1, k * 4 + 2, none⟩ (.string c.node.s)).setCell ⟨w.heap.size + 1 + 1, k * 4 + 3, none⟩ (.slice c.node.a c.node.len c.node.cap)) := by
  have hr := h.room.put hk c
  obtain ⟨W', hW'⟩ : ∃ W', ((((W.setCell ⟨w.heap.size + 1 + 1, k * 4, none⟩ (.int .i64 c.node.k)).setCell ⟨w.heap.size + 1 + 1, k * 4 + 1, none⟩ (.int .i64 c.node.n)).setCell ⟨w.heap.size + 1 + 1, k * 4 + 2, none⟩ (.string c.node.s)).setCell ⟨w.heap.size + 1 + 1, k * 4 + 3, none⟩ (.slice c.node.a c.node.len c.node.cap)) = W' := ⟨_, rfl⟩
  have hk' : ∀ b, b ≠ w.heap.size + 1 + 1 → W'.heap[b]? = W.heap[b]? := fun b hne => by
    rw [← hW']
    exact (Below.heap_setCell _ _ _ b hne).trans ((Below.heap_setCell _ _ _ b hne).trans ((Below.heap_setCell _ _ _ b hne).trans (Below.heap_setCell _ _ _ b hne)))
  have hsz : W'.heap.size = W.heap.size := by rw [← hW']; simp [World.setCell]
  have hbel : Below w.heap.size w W' := by
    rw [← hW']
    exact (((h.bel.setCell (p := ⟨w.heap.size + 1 + 1, k * 4, none⟩) (by simp; omega) _).setCell (p := ⟨w.heap.size + 1 + 1, k * 4 + 1, none⟩) (by simp; omega) _).setCell (p := ⟨w.heap.size + 1 + 1, k * 4 + 2, none⟩) (by simp; omega) _).setCell (p := ⟨w.heap.size + 1 + 1, k * 4 + 3, none⟩) (by simp; omega) _
  rw [hW'] at hr ⊢
  have hs := h.siz
  have hlen := h.room.len
  have kp : ∀ {V : LT}, IsV (fun b => w.heap.size + 3 ≤ b ∧ b < W.heap.size) W V → IsV (fun b => w.heap.size + 3 ≤ b ∧ b < W'.heap.size) W' V := fun hV => hV.kept (fun b hb' => ⟨hb'.1, by omega⟩) (fun b hb' hlt => hk' b (by omega))
  refine ⟨hr, (hk' _ (by omega)).trans h.tb, (hk' _ (by omega)).trans h.rb, hbel, by omega, fun x hx => ?_, fun i x u h1 h2 => ?_⟩
  · rcases List.mem_append.1 hx with hx | hx
    · exact kp (h.kids x hx)
    · rw [List.mem_singleton.1 hx]; exact kp hV
  · by_cases hi : i < l.length
    · rw [List.getElem?_append_left hi] at h1; exact h.of i x u h1 h2
    · have hlt := (List.getElem?_eq_some_iff.1 h1).1
      simp only [List.length_append, List.length_cons, List.length_nil] at hlt
      obtain rfl : i = k := by omega
      rw [List.getElem?_append_right (by omega)] at h1
      rw [ht] at h2
      cases h2
      simp [hlen] at h1
      subst h1
      exact hc
theorem room_start (w : World) (o1 o2 : Obj) (cs : List Value) (h : cs.length = 32) : Room (w.heap.size + 1 + 1) 0 [] (((w.alloc o1).alloc o2).alloc (.cells cs.toArray 74)) := by
  have := World.alloc_heap_new ((w.alloc o1).alloc o2) (.cells cs.toArray 74)
  rw [World.size_alloc, World.size_alloc] at this
  exact ⟨rfl, cs, h, this, by simp [cellsV]⟩
theorem ls_start (w : World) (ta : Option Addr) (tl tc : Nat) (m : List YT) (cs : List Value) (h : cs.length = 32) :
    LsR w ta tl tc m 0 [] (((w.alloc (.cells #[.int .i64 2, .slice ta tl tc] 27)).alloc (.cells #[.int .i64 0, .int .i64 0, .string ByteArray.empty, .slice none 0 0] 24)).alloc (.cells cs.toArray 74)) := by
  obtain ⟨hs2, hb2, h0, h1⟩ := begins 2 ta tl tc w _ rfl
  refine ⟨room_start w _ _ cs h, ?_, ?_, ?_, by simp, by simp, by simp⟩
  · exact (Below.heap_alloc _ _ _ (by omega)).trans h0
  · exact (Below.heap_alloc _ _ _ (by omega)).trans h1
  · exact hb2.alloc (by omega) _
/-- What the program's least value is. -/
def LsOut (T : YT) (w : World) (e : Ending) (w' : World) : Prop := ∃ V : LT, e = .returned V.node.val ∧ LeastOf V T ∧ IsV (fun b => w.heap.size ≤ b ∧ b < w'.heap.size) w' V ∧ Below w.heap.size w w'

set_option maxRecDepth 100000 in
set_option maxHeartbeats 4000000 in
theorem least_any : ∀ (d : Nat) (T : YT), typedF d T = true → ∀ (n₀ : Nat) (w : World), IsY n₀ w T → n₀ ≤ w.heap.size →
    Calls Tryz.prog 25 #[T.node.val] w (LsOut T w) := by
  intro d
  induction d with
  | zero => intro T h; simp [typedF] at h
  | succ d ih =>
    intro T hsh n₀ w hTT hn
    obtain ⟨⟨tk, ta, tl, tc⟩, m⟩ := T
    simp only [typedF, Bool.and_eq_true, List.all_eq_true] at hsh
    obtain ⟨htk, ht8⟩ := tokNode_kinds hsh.1
    have htok := hsh.1
    have hP := hTT.parts
    cases hTT with
    | mk _ _ hly _ hcy hky =>
    simp only at hly hcy htk ht8 htok hP
    dsimp only [YT.node, TNode.val]
    have IH := Lib.hid (fun (t : YT) (ht : t ∈ m) => ih t (hsh.2 t ht) n₀)
    have HY := Lib.hid hcy
    have HKY := Lib.hid hky
    have HLY := Lib.hid hly
    have HNn := Lib.hid hn
    clear ih hsh hcy hky hly hn hP
    rcases htk with rfl | rfl | rfl | rfl
    · -- a word
      obtain rfl : tl = 0 := by simpa [tokNode] using htok
      obtain rfl : m = [] := by have := HLY.out; exact List.eq_nil_of_length_eq_zero this.symm
      clear IH HY HKY HLY HNn htok ht8
      go_enter Tryz.func25, Tryz.ntmps25
      go_wp2
      refine ⟨rfl, Node.val ⟨0, -2147483648, ByteArray.empty, none, 0, 0⟩, ?_, .mk ⟨0, -2147483648, ByteArray.empty, none, 0, 0⟩ [], rfl, .int _ _ _ rfl rfl rfl rfl rfl, .mk _ _ rfl (by simp [maxLen]) (by simp) (fun i c hi => by simp at hi) (fun c hc => by simp at hc), ((Below.refl _ _).alloc (Nat.le_refl _) _).alloc (by simp) _⟩
      simp [results, Tryz.f25, go_sem, Node.val]
      rfl
    · obtain rfl : tl = 0 := by simpa [tokNode] using htok
      obtain rfl : m = [] := by have := HLY.out; exact List.eq_nil_of_length_eq_zero this.symm
      clear IH HY HKY HLY HNn htok ht8
      go_enter Tryz.func25, Tryz.ntmps25
      go_wp2
      refine ⟨rfl, Node.val ⟨1, 0, ByteArray.empty, none, 0, 0⟩, ?_, .mk ⟨1, 0, ByteArray.empty, none, 0, 0⟩ [], rfl, .text _ _ _ rfl rfl rfl rfl rfl, .mk _ _ rfl (by simp [maxLen]) (by simp) (fun i c hi => by simp at hi) (fun c hc => by simp at hc), ((Below.refl _ _).alloc (Nat.le_refl _) _).alloc (by simp) _⟩
      simp [results, Tryz.f25, go_sem, Node.val]
      rfl
    · -- a tuple
      have ht8I : (tl : Int) ≤ 8 := by omega
      go_enter Tryz.func25, Tryz.ntmps25
      go_wp2_with (fail)
      go_loopw [27] (fun i wr => ∃ (k : Nat) (l : List LT), k ≤ tl ∧ i = .int .i64 k ∧ Hid (LsR w ta tl tc m k l wr)) (fun i _ => tl - (intOf i).toNat)
      case atStart => exact ⟨0, [], Nat.zero_le _, rfl, Lib.hid (ls_start w ta tl tc m _ rfl)⟩
      case round =>
        obtain ⟨k, l, hk, rfl, HW⟩ := hrel
        by_cases hlt : k < tl
        · have hkm : k < m.length := by have := HLY.out; omega
          obtain ⟨t, htt⟩ : ∃ t, m[k]? = some t := ⟨m[k], by simp [hkm]⟩
          obtain ⟨b, off, rfl, hbb, g0, g1⟩ := HY.out k t htt
          have hn := HNn.out
          have hbw := HW.out.bel
          have f0 := ((hbw.mono hn).cell (p := ⟨b, off + k * 2, none⟩) hbb).trans g0
          have f1 := ((hbw.mono hn).cell (p := ⟨b, off + k * 2 + 1, none⟩) hbb).trans g1
          have hk8 : (k : Int) < 8 := by omega
          have hk0 : (0 : Int) ≤ (k : Int) := by omega
          have hI : ∀ W, Below w.heap.size w W → Calls Tryz.prog 25 #[t.node.val] W (LsOut t W) := fun W hW =>
            IH.out t (List.mem_of_getElem? htt) W ((HKY.out t (List.mem_of_getElem? htt)).bel (hW.mono hn)) (by have := hW.size; omega)
          have HT := Lib.hid htt
          obtain ⟨⟨uk, ua, ul, uc⟩, ukids⟩ := t
          dsimp only [YT.node, TNode.val] at f0 f1 hI
          have hb1 : Below wr.heap.size wr (wr.alloc (.cells #[.int .i64 uk, .slice ua ul uc] 27)) := (Below.refl _ _).alloc (Nat.le_refl _) _
          have hI' : Calls Tryz.prog 25 #[.agg #[.int .i64 uk, .slice ua ul uc]] (wr.alloc (.cells #[.int .i64 uk, .slice ua ul uc] 27)) fun e W5 => ∃ V : LT, e = .returned (.agg #[.int .i64 V.node.k, .int .i64 V.node.n, .string V.node.s, .slice V.node.a V.node.len V.node.cap]) ∧
              Hid (LeastOf V (.mk ⟨uk, ua, ul, uc⟩ ukids) ∧ IsV (fun b => w.heap.size + 3 ≤ b ∧ b < W5.heap.size) W5 V ∧ LsR w (some ⟨b, off, none⟩) tl tc m k l W5) ∧
              (((∃ v, W5.cell? ⟨w.heap.size + 1 + 1, k * 4, none⟩ = some v) ∧ (∃ v, W5.cell? ⟨w.heap.size + 1 + 1, k * 4 + 1, none⟩ = some v) ∧ (∃ v, W5.cell? ⟨w.heap.size + 1 + 1, k * 4 + 2, none⟩ = some v) ∧ (∃ v, W5.cell? ⟨w.heap.size + 1 + 1, k * 4 + 3, none⟩ = some v)) ∧
               (W5.frozen? ⟨w.heap.size + 1 + 1, k * 4, none⟩ = false ∧ W5.frozen? ⟨w.heap.size + 1 + 1, k * 4 + 1, none⟩ = false ∧ W5.frozen? ⟨w.heap.size + 1 + 1, k * 4 + 2, none⟩ = false ∧ W5.frozen? ⟨w.heap.size + 1 + 1, k * 4 + 3, none⟩ = false)) :=
            (hI _ (hbw.trans (hb1.mono hbw.size))).mono fun e W5 ⟨V, he, h1, h2, h3⟩ => by
              have R := HW.out.keep (hb1.trans (h3.mono hb1.size))
              have hs := HW.out.siz
              have hs1 := hb1.size
              have a0 := R.room.at (k * 4) (by omega)
              have a1 := R.room.at (k * 4 + 1) (by omega)
              have a2 := R.room.at (k * 4 + 2) (by omega)
              have a3 := R.room.at (k * 4 + 3) (by omega)
              exact ⟨V, he, Lib.hid ⟨h1, h2.kept (fun b hb => ⟨by omega, hb.2⟩) (fun _ _ _ => rfl), R⟩, ⟨a0.1, a1.1, a2.1, a3.1⟩, a0.2, a1.2, a2.2, a3.2⟩
          clear hI htt hkm hbb g0 g1 hbw hn hb1
          go_wp2_with (go_at_call 25; refine hI'.mono ?_; clear hI'; rintro e W5 ⟨⟨⟨vk, vn, vs, va, vl, vc⟩, vkids⟩, rfl, HV, ⟨⟨v0, c0⟩, ⟨v1, c1⟩, ⟨v2, c2⟩, ⟨v3, c3⟩⟩, z0, z1, z2, z3⟩; dsimp only [LT.node])
          go_roundw
          case rel => exact ⟨k + 1, _, by omega, by go_num, Lib.hid (HV.out.2.2.put (c := .mk ⟨vk, vn, vs, va, vl, vc⟩ vkids) (by omega) HV.out.2.1 HT.out HV.out.1)⟩
          case measure => simp [intOf]; omega
        · obtain rfl : k = tl := by omega
          obtain ⟨⟨_, t1⟩, _⟩ := cells2 HW.out.tb
          have hlen := HW.out.room.len
          by_cases hk0 : k = 0
          · subst hk0
            obtain rfl : l = [] := List.eq_nil_of_length_eq_zero hlen
            have hL : Calls Tryz.prog 51 #[.slice (some ⟨w.heap.size + 1 + 1, 0, none⟩) 0 8] wr fun e W6 => e = .returned (.slice none 0 0) ∧ W6 = wr := list_nil _ _ _
            obtain ⟨⟨c0, c1, c2, c3⟩, z0, z1, z2, z3⟩ := cells4 HW.out.rb
            obtain rfl : m = [] := by have := HLY.out; exact List.eq_nil_of_length_eq_zero this.symm
            clear IH HY HKY HLY HNn
            go_wp2_with (go_at_call 51; refine hL.mono ?_; clear hL; rintro e W6 ⟨rfl, rfl⟩)
            have hr4 := setAll4 (a' := .int .i64 2) (b' := .int .i64 0) (c' := .string ByteArray.empty) (d' := .slice none 0 0) HW.out.rb
            refine ⟨rfl, Node.val ⟨2, 0, ByteArray.empty, none, 0, 0⟩, ?_, .mk ⟨2, 0, ByteArray.empty, none, 0, 0⟩ [], rfl, .tuple _ _ _ _ rfl rfl rfl rfl rfl rfl (by simp), .mk _ _ rfl (by simp [maxLen]) (by simp) (fun i c hi => by simp at hi) (fun c hc => by simp at hc), below4 HW.out.bel (by omega)⟩
            have he : (⟨#[]⟩ : ByteArray) = ByteArray.empty := rfl
            simp [results, Tryz.f25, go_sem, World.cell?, he, hr4, Node.val]
          · have hL : Calls Tryz.prog 51 #[.slice (some ⟨w.heap.size + 1 + 1, 0, none⟩) k 8] wr fun e W6 => e = .returned (.slice (some ⟨wr.heap.size, 0, none⟩) k k) ∧
                Hid (W6.heap[wr.heap.size]? = some (.cells (cellsV l).toArray 24 (0, 0)) ∧ W6.heap.size = wr.heap.size + 1 ∧ Below wr.heap.size wr W6 ∧ W6.heap[w.heap.size + 1]? = some (.cells #[.int .i64 0, .int .i64 0, .string ByteArray.empty, .slice none 0 0] 24 (0, 0))) ∧
                ((W6.cell? ⟨w.heap.size + 1, 0, none⟩ = some (.int .i64 0) ∧ W6.cell? ⟨w.heap.size + 1, 1, none⟩ = some (.int .i64 0) ∧ W6.cell? ⟨w.heap.size + 1, 2, none⟩ = some (.string ByteArray.empty) ∧ W6.cell? ⟨w.heap.size + 1, 3, none⟩ = some (.slice none 0 0)) ∧
                (W6.frozen? ⟨w.heap.size + 1, 0, none⟩ = false ∧ W6.frozen? ⟨w.heap.size + 1, 1, none⟩ = false ∧ W6.frozen? ⟨w.heap.size + 1, 2, none⟩ = false ∧ W6.frozen? ⟨w.heap.size + 1, 3, none⟩ = false)) :=
              (list_any k (w.heap.size + 1 + 1) 0 8 (cellsV l) wr (by omega) ht8 (by rw [cellsV_len, hlen]) HW.out.room.src (cellsV_one l)).mono fun e W6 ⟨he, h1, h2, h3⟩ => by
                have hR := (h3.block _ (Array.getElem?_eq_some_iff.1 HW.out.rb).1).trans HW.out.rb
                exact ⟨he, Lib.hid ⟨h1, h2, h3, hR⟩, cells4 hR⟩
            have HM := Lib.hid (show l.length = m.length by have := HLY.out; omega)
            clear IH HY HKY HLY HNn
            go_wp2_with (go_at_call 51; refine hL.mono ?_; clear hL; rintro e W6 ⟨rfl, H6, ⟨c0, c1, c2, c3⟩, z0, z1, z2, z3⟩)
            obtain ⟨h61, h62, h63, h64⟩ := H6.out
            have hsz := HW.out.siz
            have hr4 := setAll4 (a' := .int .i64 2) (b' := .int .i64 0) (c' := .string ByteArray.empty) (d' := .slice (some ⟨wr.heap.size, 0, none⟩) k k) h64
            refine ⟨rfl, Node.val ⟨2, 0, ByteArray.empty, some ⟨wr.heap.size, 0, none⟩, k, k⟩, ?_, .mk ⟨2, 0, ByteArray.empty, some ⟨wr.heap.size, 0, none⟩, k, k⟩ l, rfl, .tuple _ _ _ _ rfl rfl rfl rfl hlen.symm HM.out HW.out.of, isV_row _ ((heap4 (by omega)).trans h61) rfl hlen.symm (by omega) rfl ⟨by omega, by rw [size4]; omega⟩ (fun c hc => (HW.out.kids c hc).kept (fun b hb => ⟨by omega, by rw [size4]; omega⟩) (fun b hb hl => (heap4 (by omega)).trans (h63.block b hl))), below4 (HW.out.bel.trans (h63.mono HW.out.bel.size)) (by omega)⟩
            have he : (⟨#[]⟩ : ByteArray) = ByteArray.empty := rfl
            simp [results, Tryz.f25, go_sem, World.cell?, he, hr4, Node.val]
    · -- a sum
      have htok' : 1 ≤ tl := by simp [tokNode] at htok; omega
      obtain ⟨t, m, rfl⟩ : ∃ t r, m = t :: r := by
        have := HLY.out
        match m, this with
        | t :: r, _ => exact ⟨t, r, rfl⟩
        | [], h => simp at h; omega
      obtain ⟨b, off, rfl, hbb, g0, g1⟩ := HY.out 0 t (by simp)
      simp only [Nat.zero_mul, Nat.add_zero] at g0 g1
      obtain ⟨W2, hW2⟩ : ∃ W2, (w.alloc (.cells #[.int .i64 3, .slice (some ⟨b, off, none⟩) tl tc] 27)).alloc (.cells #[.int .i64 0, .int .i64 0, .string ⟨#[]⟩, .slice none 0 0] 24) = W2 := ⟨_, rfl⟩
      obtain ⟨hs2, hb2, typ2, res2⟩ := begins _ _ _ _ w W2 hW2
      have hn := HNn.out
      have f0 := ((hb2.mono hn).cell (p := ⟨b, off, none⟩) hbb).trans g0
      have f1 := ((hb2.mono hn).cell (p := ⟨b, off + 1, none⟩) hbb).trans g1
      have hI := IH.out t (by simp) W2 ((HKY.out t (by simp)).bel (hb2.mono hn)) (by have := hb2.size; omega)
      obtain ⟨⟨uk, ua, ul, uc⟩, ukids⟩ := t
      dsimp only [YT.node, TNode.val] at f0 f1 hI
      have hI' : Calls Tryz.prog 25 #[.agg #[.int .i64 uk, .slice ua ul uc]] W2 fun e W3 => ∃ V : LT, e = .returned (.agg #[.int .i64 V.node.k, .int .i64 V.node.n, .string V.node.s, .slice V.node.a V.node.len V.node.cap]) ∧
          Hid (LeastOf V (.mk ⟨uk, ua, ul, uc⟩ ukids) ∧ IsV (fun b => W2.heap.size ≤ b ∧ b < W3.heap.size) W3 V ∧ Below W2.heap.size W2 W3) :=
        hI.mono fun e W3 ⟨V, he, h⟩ => ⟨V, he, Lib.hid h⟩
      have HR := Lib.hid res2
      have HB := Lib.hid (And.intro hb2 hs2)
      rw [← hW2] at hI' f0 f1
      have HW := Lib.hid hW2
      have htlI : (0 : Int) < (tl : Int) := by omega
      clear hW2 hI g0 g1 hbb hn IH HY HKY HLY HNn hb2 typ2 res2 hs2 htok
      go_enter Tryz.func25, Tryz.ntmps25
      go_wp2_with (first
        | (go_at_call 25; refine hI'.mono ?_; clear hI'; rintro e W3 ⟨⟨⟨vk, vn, vs, va, vl, vc⟩, vkids⟩, rfl, HV⟩; rw [HW.out] at HV; have hL := list_one ⟨vk, vn, vs, va, vl, vc⟩ W3 (w.heap.size + 1) _ _ _ _ _ ((HV.out.2.2.block _ (Array.getElem?_eq_some_iff.1 HR.out).1).trans HR.out); dsimp only [LT.node] at hL ⊢)
        | (go_at_call 51; refine hL.mono ?_; clear hL; rintro e W5 ⟨rfl, H5, ⟨c0, c1, c2, c3⟩, z0, z1, z2, z3⟩))
      obtain ⟨h51, h52, h53, h54⟩ := H5.out
      obtain ⟨hV1, hV2, hV3⟩ := HV.out
      obtain ⟨hb2, hs2⟩ := HB.out
      have hs3 := hV3.size
      have hr4 := setAll4 (a' := .int .i64 3) (b' := .int .i64 0) (c' := .string ByteArray.empty) (d' := .slice (some ⟨W3.heap.size + 1, 0, none⟩) 1 1) h54
      refine ⟨rfl, Node.val ⟨3, 0, ByteArray.empty, some ⟨W3.heap.size + 1, 0, none⟩, 1, 1⟩, ?_, .mk ⟨3, 0, ByteArray.empty, some ⟨W3.heap.size + 1, 0, none⟩, 1, 1⟩ [.mk ⟨vk, vn, vs, va, vl, vc⟩ vkids], rfl, .sum _ _ _ _ _ rfl rfl rfl rfl rfl hV1, isV_row (l := [.mk ⟨vk, vn, vs, va, vl, vc⟩ vkids]) _ ((heap4 (by omega)).trans (by simpa [cellsV, LT.node] using h51)) rfl rfl (by simp) rfl ⟨by omega, by rw [size4]; omega⟩ (fun c hc => ?_), below4 ((hb2.trans (hV3.mono hb2.size)).trans (h53.mono (by omega))) (by omega)⟩
      · have he : (⟨#[]⟩ : ByteArray) = ByteArray.empty := rfl
        simp [results, Tryz.f25, go_sem, World.cell?, he, hr4, Node.val]
      · rw [List.mem_singleton.1 hc]
        exact hV2.kept (fun b hb => ⟨by omega, by rw [size4]; omega⟩) (fun b hb hl => (heap4 (by omega)).trans (h53.block b hl))
end Go.Proofs.YtofboalgbgipoaaGreatDoor
