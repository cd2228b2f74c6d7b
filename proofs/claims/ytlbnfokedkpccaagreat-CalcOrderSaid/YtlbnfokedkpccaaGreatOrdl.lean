/- The walk of the statement CalcOrder: three values are made. -/
import Derived.Test.YtlbnfokedkpccaaGreatOrdk
set_option linter.all false
namespace Go.Proofs.YtlbnfokedkpccaaGreat
open Go.RowKit Go.Shelf
attribute [local go_sem] Oper.semAt_some

/-- What holds in the loop that makes values, behind k rounds. -/
structure MadR (w : World) (a1 a2 a3 : Option Addr) (n1 c1 n2 c2 n3 c3 : Nat) (k : Nat) (v : Value) (vs : List LT) (W : World) : Prop where
  cnt : vs.length = k
  own : W.ownsRow (w.heap.size + 1) 44 4 v k (cellsV vs)
  bel : Below w.heap.size w W
  row : W.heap[w.heap.size]? = some (.cells #[.slice a1 n1 c1, .slice a2 n2 c2, .slice a3 n3 c3] 51 (0, 0))
  siz : w.heap.size + 1 ≤ W.heap.size
  kids : ∀ c ∈ vs, IsV (fun b => w.heap.size + 1 ≤ b ∧ b < W.heap.size ∧ v.ownBlock ≠ some b) W c ∧ Fine 3 c
theorem MadR.lt {w : World} {a1 a2 a3 : Option Addr} {n1 c1 n2 c2 n3 c3 k : Nat} {v : Value} {vs : List LT} {wr : World} (R : MadR w a1 a2 a3 n1 c1 n2 c2 n3 c3 k v vs wr) : ∀ g, v.ownBlock = some g → w.heap.size + 1 ≤ g ∧ g < wr.heap.size := by
  intro g hg
  refine ⟨ownBlock_ge R.own g hg, ?_⟩
  rcases R.own.2 with ⟨rfl, _⟩ | ⟨g', cap, cur, rfl, _, hh, _⟩
  · simp [Value.ownBlock] at hg
  · simp [Value.ownBlock] at hg; rw [← hg]; exact (Array.getElem?_eq_some_iff.1 hh).1
theorem MadR.step {w : World} {a1 a2 a3 : Option Addr} {n1 c1 n2 c2 n3 c3 k : Nat} {v v' : Value} {vs : List LT} {wr Wr wc Wa w1 : World} {V : LT} (R : MadR w a1 a2 a3 n1 c1 n2 c2 n3 c3 k v vs wr) (hr : Below wr.heap.size wr Wr) (hrc : Below Wr.heap.size Wr wc)
    (hV : IsV (fun b => Wr.heap.size ≤ b ∧ b < wc.heap.size) wc V) (hF : Fine 3 V) (ha : Below wc.heap.size wc Wa) (hg : Wa.grownBy w1 v.ownBlock) (hown : w1.ownsRow (w.heap.size + 1) 44 4 v' (k + 1) (cellsV vs ++ nodeCells V.node)) (hat : v'.ownBlock = v.ownBlock ∨ ∃ g, v'.ownBlock = some g ∧ wc.heap.size ≤ g) :
    MadR w a1 a2 a3 n1 c1 n2 c2 n3 c3 (k + 1) v' (vs ++ [V]) w1 := by
  have hlt := R.lt
  have h1 := R.bel.size
  have h2 := hr.size
  have h2' := hrc.size
  have h3 := ha.size
  have h4 := hg.size
  have hz := R.siz
  have hb : Below wr.heap.size wr wc := hr.trans (hrc.mono h2)
  have k6 : ∀ b, b < wc.heap.size → v.ownBlock ≠ some b → w1.heap[b]? = wc.heap[b]? := fun b hb hn => (hg.block b (by omega) (fun e => hn e.symm)).trans (ha.block b hb)
  refine ⟨by simp [R.cnt], by rw [cellsV_snoc]; exact hown, ((R.bel.trans (hb.mono h1)).trans (ha.mono (by omega))).grown hg (by omega) (fun j e => by have := hlt j e; omega), (k6 _ (by omega) (fun e => by have := hlt _ e; omega)).trans (blk hb R.row), by omega, ?_⟩
  intro c hc
  rcases List.mem_append.1 hc with hc | hc
  · obtain ⟨hv, hf⟩ := R.kids c hc
    refine ⟨hv.kept (fun b hb' => ⟨hb'.1, by omega, fun e => ?_⟩) (fun b hb' hl => (k6 b (by omega) hb'.2.2).trans (hb.block b hl)), hf⟩
    rcases hat with hat | ⟨g, hat, hge⟩
    · exact hb'.2.2 (by rw [← hat, e])
    · rw [hat] at e; cases e; omega
  · rw [List.mem_singleton.1 hc]
    refine ⟨hV.kept (fun b hb' => ⟨by omega, by omega, fun e => ?_⟩) (fun b hb' hl => k6 b hl (fun e => by have := hlt b e; omega)), hF⟩
    rcases hat with hat | ⟨g, hat, hge⟩
    · rw [hat] at e; have := hlt b e; omega
    · rw [hat] at e; cases e; omega

/-- How many truths were met ahead of place r, if just the one at place p is true. -/
def cntF (p r : Nat) : Int := if p < r then 1 else 0
set_option maxRecDepth 100000 in
set_option maxHeartbeats 40000000 in
theorem CalcOrder_any (a1 a2 a3 : Option Addr) (n1 c1 n2 c2 n3 c3 : Nat) (l1 l2 l3 : List Int) (w : World) (h1 : IsInts w.heap.size w a1 n1 l1) (h2 : IsInts w.heap.size w a2 n2 l2) (h3 : IsInts w.heap.size w a3 n3 l3) (hK : ∀ W, Calls Tryz.prog 48 #[] W (KindsR W))
    (hv : ∀ W, Below w.heap.size w W → Calls Tryz.prog 15 #[] W fun e W' => e = .returned (.bool true) ∧ Below W.heap.size W W') (g1 : ¬ (60 : Int) < n1) (g2 : ¬ (60 : Int) < n2) (g3 : ¬ (60 : Int) < n3) :
    Calls Tryz.prog 12 #[.slice a1 n1 c1, .slice a2 n2 c2, .slice a3 n3 c3] w fun e w' => e = .returned (.bool true) ∧ Below w.heap.size w w' := by
  have HV := Lib.hid hv
  have HIN := Lib.hid (And.intro h1 (And.intro h2 h3))
  have HK := Lib.hid hK
  have hst : MadR w a1 a2 a3 n1 c1 n2 c2 n3 c3 0 (.slice none 0 0) [] (w.alloc (.cells #[.slice a1 n1 c1, .slice a2 n2 c2, .slice a3 n3 c3] 51)) :=
    ⟨rfl, ⟨rfl, .inl ⟨rfl, rfl⟩⟩, (Below.refl _ _).alloc (Nat.le_refl _) _, World.alloc_heap_new w _, by simp, fun c hc => by simp at hc⟩
  have HST := Lib.hid hst
  clear hst hv h1 h2 h3 hK
  go_enter Tryz.func12, Tryz.ntmps12
  go_wp2_with (fail)
  go_loopw [7, 40] (fun v i wr => ∃ (k : Nat) (vs : List LT), k ≤ 3 ∧ i = .int .i64 k ∧ Hid (MadR w a1 a2 a3 n1 c1 n2 c2 n3 c3 k v vs wr)) (fun _ i _ => 3 - (intOf i).toNat)
  case atStart => exact ⟨0, [], Nat.zero_le _, rfl, HST⟩
  case round =>
    obtain ⟨k, vs, hk, rfl, R⟩ := hrel
    clear HST
    by_cases hlt : k < 3
    · obtain ⟨a, len, cap, l, hcell, hints⟩ : ∃ a len cap l, wr.cell? ⟨w.heap.size, k, none⟩ = some (.slice a len cap) ∧ Hid (IsInts w.heap.size w a len l) := by
        rcases (show k = 0 ∨ k = 1 ∨ k = 2 by omega) with rfl | rfl | rfl
        · exact ⟨a1, n1, c1, l1, by simp [World.cell?, R.out.row], Lib.hid HIN.out.1⟩
        · exact ⟨a2, n2, c2, l2, by simp [World.cell?, R.out.row], Lib.hid HIN.out.2.1⟩
        · exact ⟨a3, n3, c3, l3, by simp [World.cell?, R.out.row], Lib.hid HIN.out.2.2⟩
      have HKr : Hid (Calls Tryz.prog 48 #[] wr fun e W1 => ∃ g, e = .returned (.slice (some ⟨g, 0, none⟩) 7 7) ∧ Hid (KindsR wr (.returned (.slice (some ⟨g, 0, none⟩) 7 7)) W1)) := Lib.hid ((HK.out wr).mono fun e W1 h => by
        obtain ⟨g, Ts, rfl, h⟩ := h
        exact ⟨g, rfl, Lib.hid ⟨g, Ts, rfl, h⟩⟩)
      have HTk : Hid (∀ W, Below w.heap.size w W → Calls Tryz.prog 49 #[.agg #[.slice a len cap, .int .i64 0], .int .i64 7] W fun e w' => ∃ (t at' : Nat), e = .returned (.tuple #[.int .i64 t, .agg #[.slice a len cap, .int .i64 at']]) ∧ t < 7 ∧ Hid (Below W.heap.size W w')) := Lib.hid fun W hW =>
        (Take_any w.heap.size a len cap l 0 7 (by omega) (by omega) W (hints.out.bel hW) hW.size).mono fun e w' h => by
          obtain ⟨⟨n, at', x0, x1, he⟩, hb⟩ := h
          exact ⟨n.toNat, at', by rw [Int.toNat_of_nonneg x0]; exact he, by omega, Lib.hid hb⟩
      go_upto_region 9 with (first
        | (go_at_call 48; refine HKr.out.mono ?_; rintro e W1 ⟨g, rfl, HK1⟩)
        | (go_at_call 49; refine (HTk.out _ ?_).mono ?_; (obtain ⟨g', Ts', hx, hx1, hx2, hx3, hx4, hx5⟩ := HK1.out; exact R.out.bel.trans (hx4.mono R.out.bel.size)); rintro e W2 ⟨t, at', rfl, ht7, H2⟩))
      obtain ⟨g', Ts, hx, hx1, hx2, hx3, hx4, hx5⟩ := HK1.out
      obtain rfl : g = g' := by simp at hx; exact hx
      have htT : t < Ts.length := by omega
      obtain ⟨c, hcc⟩ : ∃ c, Ts[t]? = some c := ⟨Ts[t], by simp [htT]⟩
      obtain ⟨e0, e1, hTT, hfit⟩ := hx5 t c hcc
      have hb2 : Below W1.heap.size W1 (W2.alloc (.cells #[.slice a len cap, .int .i64 at'] 59)) := H2.out.alloc H2.out.size _
      have hbr : Below wr.heap.size wr (W2.alloc (.cells #[.slice a len cap, .int .i64 at'] 59)) := hx4.trans (hb2.mono hx4.size)
      have f0 := (hb2.cell (p := ⟨g, t * 2, none⟩) hx3).trans e0
      have f1 := (hb2.cell (p := ⟨g, t * 2 + 1, none⟩) hx3).trans e1
      have x7 := World.alloc_heap_new W2 (.cells #[.slice a len cap, .int .i64 at'] 59)
      have hgb : W1.heap.size ≤ W2.heap.size := H2.out.size
      have hsr : (W2.alloc (.cells #[.slice a len cap, .int .i64 at'] 59)).heap.size = W2.heap.size + 1 := by simp
      obtain ⟨bs, hbs⟩ : ∃ bs, W2.heap.size = bs := ⟨_, rfl⟩
      obtain ⟨Wr, hWr⟩ : ∃ Wr, W2.alloc (.cells #[.slice a len cap, .int .i64 at'] 59) = Wr := ⟨_, rfl⟩
      rw [hbs] at x7 hgb hsr
      rw [hWr] at hb2 hbr f0 f1 x7 hsr ⊢
      rw [hbs]
      obtain ⟨ck, ca, cl, cc, ckids⟩ := c
      simp only [TT.k, TT.row, TT.a, TT.len, TT.cap] at f0 f1
      obtain ⟨⟨d0, d1⟩, _⟩ := cells2 x7
      have HI2 : Hid (∀ W, Below Wr.heap.size Wr W → Calls Tryz.prog 50 #[.agg #[.int .i64 ck, .slice ca cl cc], .agg #[.slice a len cap, .int .i64 at']] W fun e W3 => ∃ (V : LT) (q' : Nat), e = .returned (.tuple #[.agg #[.int .i64 V.node.k, .int .i64 V.node.n, .string V.node.s, .slice V.node.a V.node.len V.node.cap], .agg #[.slice a len cap, .int .i64 q']]) ∧
          Hid (IsV (fun b => W.heap.size ≤ b ∧ b < W3.heap.size) W3 V ∧ Fine 3 V ∧ Below W.heap.size W W3) ∧ (W3.cell? ⟨g, t * 2, none⟩ = some (.int .i64 ck) ∧ W3.cell? ⟨g, t * 2 + 1, none⟩ = some (.slice ca cl cc) ∧ W3.cell? ⟨bs, 0, none⟩ = some (.slice a len cap) ∧ W3.cell? ⟨bs, 1, none⟩ = some (.int .i64 at'))) := Lib.hid fun W hW => by
        have hW1 : Below W1.heap.size W1 W := hb2.trans (hW.mono hb2.size)
        have hWw : Below w.heap.size w W := R.out.bel.trans ((hbr.trans (hW.mono hbr.size)).mono R.out.bel.size)
        refine (ValueOf_any w.heap.size a len cap l 3 (.mk ck ca cl cc ckids) hfit (fun b => wr.heap.size ≤ b ∧ b < W1.heap.size) at' W (hints.out.bel hWw) hWw.size (fun b hb => by have := hW1.size; omega) (hTT.kept (fun b hb => hb) (fun b hb hl => hW1.block b hl))).mono fun e W3 h => ?_
        obtain ⟨V, q', he, h1, h2, h3⟩ := h
        have hB := hW.trans (h3.mono hW.size)
        have kp : ∀ {b o : Nat} {v : Value}, Wr.cell? ⟨b, o, none⟩ = some v → W3.cell? ⟨b, o, none⟩ = some v := fun {b o v} hc => (hB.cell (p := ⟨b, o, none⟩) (cell_lt hc)).trans hc
        exact ⟨V, q', he, Lib.hid ⟨h1, h2, h3⟩, kp f0, kp f1, kp d0, kp d1⟩
      have u1 : Wr.heap.size ≠ g := by omega
      have u2 : g ≠ Wr.heap.size := by omega
      have u3 : Wr.heap.size ≠ bs := by omega
      have u4 : bs ≠ Wr.heap.size := by omega
      have u5 : Wr.heap.size + 1 ≠ g := by omega
      have u6 : g ≠ Wr.heap.size + 1 := by omega
      have u7 : Wr.heap.size + 1 ≠ bs := by omega
      have u8 : bs ≠ Wr.heap.size + 1 := by omega
      have ht7' : (t : Int) < 7 := by omega
      have HBR := Lib.hid hbr
      clear hx hx1 hx2 hx3 hx4 hx5 htT hcc e0 e1 hTT hfit hb2 hbr x7 hgb hsr hbs hWr hcell H2 HK1 HKr HTk hints
      go_cut [13] (fun s13 wc => ∃ (V : LT) (q' B C : Nat), s13 = .pointer (some ⟨B, 0, none⟩) ∧ Hid (MidR 3 a len cap Wr V q' B C wc))
      case first =>
        go_region_held3 (fun w' => w'.cell? ⟨g, t * 2, none⟩ = some (.int .i64 ck) ∧ w'.cell? ⟨g, t * 2 + 1, none⟩ = some (.slice ca cl cc) ∧ w'.cell? ⟨bs, 0, none⟩ = some (.slice a len cap) ∧ w'.cell? ⟨bs, 1, none⟩ = some (.int .i64 at'))
          (go_keep)
          (first
            | (go_at_call 50; refine (HI2.out _ ?_).mono ?_; (first | exact Below.refl _ _ | exact (Below.refl _ _).drew); rintro e W3 ⟨⟨⟨vk, vn, vs', va, vl, vc⟩, vkids⟩, q', rfl, H3, ⟨q0, q1, q3, q4⟩⟩; dsimp only [LT.node]; have ne1 := World.new_ne W3 _ q0; have ne3 := World.new_ne W3 _ q3; dsimp only at ne1 ne3; have ne1s := ne1.symm; have ne3s := ne3.symm)
            | (go_at_call 50; refine (HI2.out _ ?_).mono ?_; (first | exact (Below.refl Wr.heap.size Wr).alloc (Nat.le_refl _) (.cells #[.int .i64 0, .int .i64 0, .string ByteArray.empty, .slice none 0 0] 44) | exact ((Below.refl Wr.heap.size Wr).alloc (Nat.le_refl _) (.cells #[.int .i64 0, .int .i64 0, .string ByteArray.empty, .slice none 0 0] 44)).drew | exact ((Below.refl Wr.heap.size Wr).drew.alloc (Nat.le_refl _) (.cells #[.int .i64 0, .int .i64 0, .string ByteArray.empty, .slice none 0 0] 44)) | exact ((Below.refl Wr.heap.size Wr).drew.alloc (Nat.le_refl _) (.cells #[.int .i64 0, .int .i64 0, .string ByteArray.empty, .slice none 0 0] 44)).drew); rintro e W3 ⟨⟨⟨vk, vn, vs', va, vl, vc⟩, vkids⟩, q', rfl, H3, ⟨q0, q1, q3, q4⟩⟩; dsimp only [LT.node]; have ne1 := World.new_ne W3 _ q0; have ne3 := World.new_ne W3 _ q3; dsimp only at ne1 ne3; have ne1s := ne1.symm; have ne3s := ne3.symm; obtain ⟨⟨z0, z1, z2, z3⟩, y0, y1, y2, y3⟩ := four_al (blk H3.out.2.2 (World.alloc_heap_new Wr (.cells #[.int .i64 0, .int .i64 0, .string ByteArray.empty, .slice none 0 0] 44))); obtain ⟨⟨z0', z1', z2', z3'⟩, y0', y1', y2', y3'⟩ := cells4 (blk H3.out.2.2 (World.alloc_heap_new Wr (.cells #[.int .i64 0, .int .i64 0, .string ByteArray.empty, .slice none 0 0] 44))); have nz := Nat.ne_of_lt (cell_lt z0'); have nz' := nz.symm)
            | (go_at_call 50; refine (HI2.out _ ?_).mono ?_; (first | exact (Below.refl Wr.heap.size Wr).alloc (Nat.le_refl _) (.cells #[.slice none 0 0, .int .i64 0] 59) | exact ((Below.refl Wr.heap.size Wr).alloc (Nat.le_refl _) (.cells #[.slice none 0 0, .int .i64 0] 59)).drew | exact ((Below.refl Wr.heap.size Wr).drew.alloc (Nat.le_refl _) (.cells #[.slice none 0 0, .int .i64 0] 59)) | exact ((Below.refl Wr.heap.size Wr).drew.alloc (Nat.le_refl _) (.cells #[.slice none 0 0, .int .i64 0] 59)).drew); rintro e W3 ⟨⟨⟨vk, vn, vs', va, vl, vc⟩, vkids⟩, q', rfl, H3, ⟨q0, q1, q3, q4⟩⟩; dsimp only [LT.node]; have ne1 := World.new_ne W3 _ q0; have ne3 := World.new_ne W3 _ q3; dsimp only at ne1 ne3; have ne1s := ne1.symm; have ne3s := ne3.symm; obtain ⟨⟨z0, z1⟩, y0, y1⟩ := two_al (blk H3.out.2.2 (World.alloc_heap_new Wr (.cells #[.slice none 0 0, .int .i64 0] 59))); obtain ⟨⟨z0', z1'⟩, y0', y1'⟩ := cells2 (blk H3.out.2.2 (World.alloc_heap_new Wr (.cells #[.slice none 0 0, .int .i64 0] 59))); have nz := Nat.ne_of_lt (cell_lt z0'); have nz' := nz.symm)
            | (go_at_call 50; refine (HI2.out _ ?_).mono ?_; (first | exact ((Below.refl Wr.heap.size Wr).alloc (Nat.le_refl _) (.cells #[.int .i64 0, .int .i64 0, .string ByteArray.empty, .slice none 0 0] 44)).alloc (by simp) (.cells #[.slice none 0 0, .int .i64 0] 59) | exact (((Below.refl Wr.heap.size Wr).alloc (Nat.le_refl _) (.cells #[.int .i64 0, .int .i64 0, .string ByteArray.empty, .slice none 0 0] 44)).alloc (by simp) (.cells #[.slice none 0 0, .int .i64 0] 59)).drew); rintro e W3 ⟨⟨⟨vk, vn, vs', va, vl, vc⟩, vkids⟩, q', rfl, H3, ⟨q0, q1, q3, q4⟩⟩; dsimp only [LT.node]; have ne1 := World.new_ne W3 _ q0; have ne3 := World.new_ne W3 _ q3; dsimp only at ne1 ne3; have ne1s := ne1.symm; have ne3s := ne3.symm; obtain ⟨⟨z0, z1, z2, z3⟩, y0, y1, y2, y3⟩ := cells4 (blk H3.out.2.2 (two_al_heap Wr (.cells #[.int .i64 0, .int .i64 0, .string ByteArray.empty, .slice none 0 0] 44) (.cells #[.slice none 0 0, .int .i64 0] 59)).1); obtain ⟨⟨x0, x1⟩, o0, o1⟩ := cells2 (blk H3.out.2.2 (two_al_heap Wr (.cells #[.int .i64 0, .int .i64 0, .string ByteArray.empty, .slice none 0 0] 44) (.cells #[.slice none 0 0, .int .i64 0] 59)).2))
            | (go_at_call 50; refine (HI2.out _ ?_).mono ?_; (first | exact ((Below.refl Wr.heap.size Wr).alloc (Nat.le_refl _) (.cells #[.slice none 0 0, .int .i64 0] 59)).alloc (by simp) (.cells #[.int .i64 0, .int .i64 0, .string ByteArray.empty, .slice none 0 0] 44) | exact (((Below.refl Wr.heap.size Wr).alloc (Nat.le_refl _) (.cells #[.slice none 0 0, .int .i64 0] 59)).alloc (by simp) (.cells #[.int .i64 0, .int .i64 0, .string ByteArray.empty, .slice none 0 0] 44)).drew); rintro e W3 ⟨⟨⟨vk, vn, vs', va, vl, vc⟩, vkids⟩, q', rfl, H3, ⟨q0, q1, q3, q4⟩⟩; dsimp only [LT.node]; have ne1 := World.new_ne W3 _ q0; have ne3 := World.new_ne W3 _ q3; dsimp only at ne1 ne3; have ne1s := ne1.symm; have ne3s := ne3.symm; obtain ⟨⟨x0, x1⟩, o0, o1⟩ := cells2 (blk H3.out.2.2 (two_al_heap Wr (.cells #[.slice none 0 0, .int .i64 0] 59) (.cells #[.int .i64 0, .int .i64 0, .string ByteArray.empty, .slice none 0 0] 44)).1); obtain ⟨⟨z0, z1, z2, z3⟩, y0, y1, y2, y3⟩ := cells4 (blk H3.out.2.2 (two_al_heap Wr (.cells #[.slice none 0 0, .int .i64 0] 59) (.cells #[.int .i64 0, .int .i64 0, .string ByteArray.empty, .slice none 0 0] 44)).2)))
        all_goals (go_step; go_step; go_meet)
        · exact ⟨.mk ⟨vk, vn, vs', va, vl, vc⟩ vkids, q', _, _, rfl, Lib.hid (mid1 (by first | exact Below.refl _ _ | exact (Below.refl _ _).drew) H3.out)⟩
        · exact ⟨.mk ⟨vk, vn, vs', va, vl, vc⟩ vkids, q', _, _, rfl, Lib.hid (mid2 (by first | exact Below.refl _ _ | exact (Below.refl _ _).drew) H3.out)⟩
        · exact ⟨.mk ⟨vk, vn, vs', va, vl, vc⟩ vkids, q', _, _, rfl, Lib.hid (mid3 (W := (Wr.alloc (.cells #[.int .i64 0, .int .i64 0, .string ByteArray.empty, .slice none 0 0] 44)).drew) (((Below.refl _ _).alloc (Nat.le_refl _) _).drew) (World.alloc_heap_new Wr (.cells #[.int .i64 0, .int .i64 0, .string ByteArray.empty, .slice none 0 0] 44)) H3.out)⟩
        · exact ⟨.mk ⟨vk, vn, vs', va, vl, vc⟩ vkids, q', Wr.heap.size, Wr.heap.size + 1, rfl, Lib.hid (mid4 (W := ((Wr.alloc (.cells #[.int .i64 0, .int .i64 0, .string ByteArray.empty, .slice none 0 0] 44)).alloc (.cells #[.slice none 0 0, .int .i64 0] 59)).drew) ((((Below.refl _ _).alloc (Nat.le_refl _) _).alloc (by simp) _).drew) (two_al_heap Wr (.cells #[.int .i64 0, .int .i64 0, .string ByteArray.empty, .slice none 0 0] 44) (.cells #[.slice none 0 0, .int .i64 0] 59)).1 (two_al_heap Wr (.cells #[.int .i64 0, .int .i64 0, .string ByteArray.empty, .slice none 0 0] 44) (.cells #[.slice none 0 0, .int .i64 0] 59)).2 (Nat.le_refl _) (by omega) (by omega) H3.out)⟩
        · exact ⟨.mk ⟨vk, vn, vs', va, vl, vc⟩ vkids, q', _, _, rfl, Lib.hid (mid5 (W := (Wr.alloc (.cells #[.slice none 0 0, .int .i64 0] 59)).drew) (((Below.refl _ _).alloc (Nat.le_refl _) _).drew) (World.alloc_heap_new Wr (.cells #[.slice none 0 0, .int .i64 0] 59)) H3.out)⟩
        · exact ⟨.mk ⟨vk, vn, vs', va, vl, vc⟩ vkids, q', Wr.heap.size + 1, Wr.heap.size, rfl, Lib.hid (mid4 (W := ((Wr.alloc (.cells #[.slice none 0 0, .int .i64 0] 59)).alloc (.cells #[.int .i64 0, .int .i64 0, .string ByteArray.empty, .slice none 0 0] 44)).drew) ((((Below.refl _ _).alloc (Nat.le_refl _) _).alloc (by simp) _).drew) (two_al_heap Wr (.cells #[.slice none 0 0, .int .i64 0] 59) (.cells #[.int .i64 0, .int .i64 0, .string ByteArray.empty, .slice none 0 0] 44)).2 (two_al_heap Wr (.cells #[.slice none 0 0, .int .i64 0] 59) (.cells #[.int .i64 0, .int .i64 0, .string ByteArray.empty, .slice none 0 0] 44)).1 (by omega) (Nat.le_refl _) (by omega) H3.out)⟩
      case rest =>
        obtain ⟨⟨⟨vk, vn, vs', va, vl, vc⟩, vkids⟩, q', B, C, rfl, HM⟩ := hcut
        obtain ⟨sva, svc, rfl⟩ := isSlice R.out.own
        have hrw := HBR.out.size
        have hszM := HM.out.bel.size
        have hbx := HM.out.bx
        dsimp only [LT.node] at hbx
        obtain ⟨⟨v0, v1, v2, v3⟩, _⟩ := cells4 hbx
        have hown := ownsRow_kept R.out.own (fun g _ hg => ((HM.out.bel.block g (by omega)).trans (HBR.out.block g hg)))
        have hown2 : World.ownsRow (wc.alloc (.cells #[.int .i64 vk, .int .i64 vn, .string vs', .slice va vl vc] 44)) _ _ _ _ _ _ := ownsRow_kept hown (fun g _ hg => Below.heap_alloc _ _ g hg)
        have HOwn := Lib.hid hown2
        have HSz := Lib.hid (And.intro hrw (And.intro hszM R.out.siz))
        obtain ⟨i0, hi, hz0, hz1, hz2⟩ := info_partsV
        clear hown hown2 hbx HI2 u1 u2 u3 u4 u5 u6 u7 u8 f0 f1 d0 d1 hrw hszM
        go_wp2_with (at_builtin; refine wpList_append_own_at _ rfl _ _ 24 rfl (w.heap.size + 1) 44 i0 (.agg #[.int .i64 0, .int .i64 0, .string ByteArray.empty, .slice none 0 0]) 4 56 undV hi hz0 hz1 hz2 rfl (by decide) _ _ _ rfl HOwn.out ⟨wc.heap.size, 0, none⟩ 1 1 [.int .i64 vk, .int .i64 vn, .string vs', .slice va vl vc] rfl rfl ?c1 ?c2 ?c3 ?c4 ?c5 ?_)
        case c1 =>
          intro j u hj
          rcases j with _ | _ | _ | _ | j
          · simp at hj; subst hj; simp [Addr.add, go_sem]
          · simp at hj; subst hj; simp [Addr.add, go_sem]
          · simp at hj; subst hj; simp [Addr.add, go_sem]
          · simp at hj; subst hj; simp [Addr.add, go_sem]
          · simp at hj
        case c2 => intro u hu; simp at hu; rcases hu with rfl | rfl | rfl | rfl <;> rfl
        case c3 => unfold maxLen; omega
        case c4 => omega
        case c5 => have := HSz.out; simp; omega
        · intro v' W6 hown' hgrow _ hv'
          have R7 := Lib.hid (R.out.step (V := .mk ⟨vk, vn, vs', va, vl, vc⟩ vkids) HBR.out HM.out.bel HM.out.val HM.out.fine ((Below.refl _ _).alloc (Nat.le_refl _) _) hgrow hown' (hv'.imp id (fun e => ⟨_, e, by simp⟩)))
          clear hown' hgrow hv'
          go_wp2
          go_roundw
          case rel => exact ⟨k + 1, vs ++ [.mk ⟨vk, vn, vs', va, vl, vc⟩ vkids], by omega, by go_num, R7⟩
          case measure => simp [intOf]; omega
    · have hk3 : k = 3 := by omega
      subst hk3
      obtain ⟨wo, rfl⟩ : ∃ wo : World, wo = wr := ⟨_, rfl⟩
      have hcn := R.out.cnt
      obtain ⟨sva, cp, rfl⟩ := isSlice R.out.own
      obtain ⟨g, rfl, hcell⟩ : ∃ g, sva = some ⟨g, 0, none⟩ ∧ ∀ (i : Nat) (c : LT), vs[i]? = some c → wo.cell? ⟨g, i * 4, none⟩ = some (.int .i64 c.node.k) ∧ wo.cell? ⟨g, i * 4 + 1, none⟩ = some (.int .i64 c.node.n) ∧ wo.cell? ⟨g, i * 4 + 2, none⟩ = some (.string c.node.s) ∧ wo.cell? ⟨g, i * 4 + 3, none⟩ = some (.slice c.node.a c.node.len c.node.cap) := by
        rcases R.out.own.2 with ⟨_, hno⟩ | ⟨g, cp', cur, hv, hg, hh, _, _, _, htk⟩
        · omega
        · cases hv
          refine ⟨g, rfl, fun i c hi => ?_⟩
          have hil : i < vs.length := (List.getElem?_eq_some_iff.1 hi).1
          obtain ⟨h0, h1, h2, h3⟩ := cellsV_at hi
          rw [← htk, List.getElem?_take] at h0 h1 h2 h3
          rw [if_pos (by omega)] at h0 h1 h2 h3
          exact ⟨by simpa [World.cell?, hh] using h0, by simpa [World.cell?, hh] using h1, by simpa [World.cell?, hh] using h2, by simpa [World.cell?, hh] using h3⟩
      have HC : Hid (∀ (i : Nat) (c : LT), vs[i]? = some c → ∀ W, Below wo.heap.size wo W → W.cell? ⟨g, i * 4, none⟩ = some (.int .i64 c.node.k) ∧ W.cell? ⟨g, i * 4 + 1, none⟩ = some (.int .i64 c.node.n) ∧ W.cell? ⟨g, i * 4 + 2, none⟩ = some (.string c.node.s) ∧ W.cell? ⟨g, i * 4 + 3, none⟩ = some (.slice c.node.a c.node.len c.node.cap)) := Lib.hid fun i c hi W hW => by
        obtain ⟨h0, h1, h2, h3⟩ := hcell i c hi
        exact ⟨(hW.cell (p := ⟨g, _, none⟩) (cell_lt h0)).trans h0, (hW.cell (p := ⟨g, _, none⟩) (cell_lt h1)).trans h1, (hW.cell (p := ⟨g, _, none⟩) (cell_lt h2)).trans h2, (hW.cell (p := ⟨g, _, none⟩) (cell_lt h3)).trans h3⟩
      have HVal : Hid (∀ (i : Nat) (c : LT), vs[i]? = some c → validF c = true ∧ Sized c ∧ IsT wo.heap.size wo c) := Lib.hid fun i c hi => by
        obtain ⟨h1, h2⟩ := R.out.kids c (List.mem_of_getElem? hi)
        exact ⟨h2.valid (by omega), h2.1.lens, h1.isT (fun b hb => hb.2.1)⟩
      have HSay : Hid (∀ (o : Int) {i m : Nat} (A B : LT), vs[i]? = some A → vs[m]? = some B → ∀ W, Below wo.heap.size wo W → Calls Tryz.prog 51 #[.int .i64 o, A.node.val, B.node.val] W fun e W' => e = .returned (.bool (saysF o A B)) ∧ Below wo.heap.size wo W') := Lib.hid fun o i m A B hA hB W hW =>
        (Says_any o A B (HVal.out i A hA).2.1 (HVal.out m B hB).2.1 wo.heap.size W ((HVal.out i A hA).2.2.bel hW) ((HVal.out m B hB).2.2.bel hW) hW.size).mono fun e W' ⟨he, hb⟩ => ⟨he, hW.trans (hb.mono hW.size)⟩
      have HCn := Lib.hid hcn
      have HB0 := Lib.hid R.out.bel
      clear hcell hcn R HK HIN
      go_wp2_with (fail)
      go_loopw [69] (fun s wx => ∃ i : Nat, i ≤ 3 ∧ s = .int .i64 i ∧ Hid (Below wo.heap.size wo wx)) (fun s _ => 3 - (intOf s).toNat)
      case atStart => exact ⟨0, by omega, rfl, Lib.hid (Below.refl _ _)⟩
      case round =>
        obtain ⟨i, hi3, rfl, HX⟩ := hrel
        obtain ⟨wm, rfl⟩ : ∃ wm : World, wm = wr := ⟨_, rfl⟩
        by_cases hi : i < 3
        · go_wp2_with (fail)
          go_loopw [74] (fun s wy => ∃ m : Nat, m ≤ 3 ∧ s = .int .i64 m ∧ Hid (Below wo.heap.size wo wy)) (fun s _ => 3 - (intOf s).toNat)
          case atStart => exact ⟨0, by omega, rfl, HX⟩
          case round =>
            obtain ⟨m, hm3, rfl, HY⟩ := hrel
            obtain ⟨wi, rfl⟩ : ∃ wi : World, wi = wr := ⟨_, rfl⟩
            by_cases hm : m < 3
            · have hcnt := HCn.out
              obtain ⟨⟨⟨xk, xn, xs, xa, xl, xc⟩, xt⟩, hA⟩ : ∃ c, vs[i]? = some c := ⟨vs[i], by simp <;> omega⟩
              obtain ⟨⟨⟨yk, yn, ys, ya, yl, yc⟩, yt⟩, hB⟩ : ∃ c, vs[m]? = some c := ⟨vs[m], by simp <;> omega⟩
              obtain ⟨a0, a1', a2', a3'⟩ := HC.out i _ hA wi HY.out
              obtain ⟨b0, b1, b2, b3⟩ := HC.out m _ hB wi HY.out
              dsimp only [LT.node] at a0 a1' a2' a3' b0 b1 b2 b3
              have C1 : Hid (∀ W, Below wo.heap.size wo W → Calls Tryz.prog 51 #[.int .i64 10, .agg #[.int .i64 xk, .int .i64 xn, .string xs, .slice xa xl xc], .agg #[.int .i64 yk, .int .i64 yn, .string ys, .slice ya yl yc]] W fun e W' => e = .returned (.bool (saysF 10 (.mk ⟨xk, xn, xs, xa, xl, xc⟩ xt) (.mk ⟨yk, yn, ys, ya, yl, yc⟩ yt))) ∧ Hid (Below wo.heap.size wo W') ∧ (W'.cell? ⟨g, i * 4, none⟩ = some (.int .i64 xk) ∧ W'.cell? ⟨g, i * 4 + 1, none⟩ = some (.int .i64 xn) ∧ W'.cell? ⟨g, i * 4 + 2, none⟩ = some (.string xs) ∧ W'.cell? ⟨g, i * 4 + 3, none⟩ = some (.slice xa xl xc)) ∧ W'.cell? ⟨g, m * 4, none⟩ = some (.int .i64 yk) ∧ W'.cell? ⟨g, m * 4 + 1, none⟩ = some (.int .i64 yn) ∧ W'.cell? ⟨g, m * 4 + 2, none⟩ = some (.string ys) ∧ W'.cell? ⟨g, m * 4 + 3, none⟩ = some (.slice ya yl yc)) := Lib.hid fun W hW =>
                (HSay.out 10 _ _ hA hB W hW).mono fun e W' ⟨he, hb⟩ => ⟨he, Lib.hid hb, HC.out i _ hA W' hb, HC.out m _ hB W' hb⟩
              have C2 : Hid (∀ W, Below wo.heap.size wo W → Calls Tryz.prog 51 #[.int .i64 10, .agg #[.int .i64 yk, .int .i64 yn, .string ys, .slice ya yl yc], .agg #[.int .i64 xk, .int .i64 xn, .string xs, .slice xa xl xc]] W fun e W' => e = .returned (.bool (saysF 10 (.mk ⟨yk, yn, ys, ya, yl, yc⟩ yt) (.mk ⟨xk, xn, xs, xa, xl, xc⟩ xt))) ∧ Hid (Below wo.heap.size wo W') ∧ (W'.cell? ⟨g, i * 4, none⟩ = some (.int .i64 xk) ∧ W'.cell? ⟨g, i * 4 + 1, none⟩ = some (.int .i64 xn) ∧ W'.cell? ⟨g, i * 4 + 2, none⟩ = some (.string xs) ∧ W'.cell? ⟨g, i * 4 + 3, none⟩ = some (.slice xa xl xc)) ∧ W'.cell? ⟨g, m * 4, none⟩ = some (.int .i64 yk) ∧ W'.cell? ⟨g, m * 4 + 1, none⟩ = some (.int .i64 yn) ∧ W'.cell? ⟨g, m * 4 + 2, none⟩ = some (.string ys) ∧ W'.cell? ⟨g, m * 4 + 3, none⟩ = some (.slice ya yl yc)) := Lib.hid fun W hW =>
                (HSay.out 10 _ _ hB hA W hW).mono fun e W' ⟨he, hb⟩ => ⟨he, Lib.hid hb, HC.out i _ hA W' hb, HC.out m _ hB W' hb⟩
              have C3 : Hid (∀ W, Below wo.heap.size wo W → Calls Tryz.prog 51 #[.int .i64 11, .agg #[.int .i64 xk, .int .i64 xn, .string xs, .slice xa xl xc], .agg #[.int .i64 yk, .int .i64 yn, .string ys, .slice ya yl yc]] W fun e W' => e = .returned (.bool (saysF 11 (.mk ⟨xk, xn, xs, xa, xl, xc⟩ xt) (.mk ⟨yk, yn, ys, ya, yl, yc⟩ yt))) ∧ Hid (Below wo.heap.size wo W') ∧ (W'.cell? ⟨g, i * 4, none⟩ = some (.int .i64 xk) ∧ W'.cell? ⟨g, i * 4 + 1, none⟩ = some (.int .i64 xn) ∧ W'.cell? ⟨g, i * 4 + 2, none⟩ = some (.string xs) ∧ W'.cell? ⟨g, i * 4 + 3, none⟩ = some (.slice xa xl xc)) ∧ W'.cell? ⟨g, m * 4, none⟩ = some (.int .i64 yk) ∧ W'.cell? ⟨g, m * 4 + 1, none⟩ = some (.int .i64 yn) ∧ W'.cell? ⟨g, m * 4 + 2, none⟩ = some (.string ys) ∧ W'.cell? ⟨g, m * 4 + 3, none⟩ = some (.slice ya yl yc)) := Lib.hid fun W hW =>
                (HSay.out 11 _ _ hA hB W hW).mono fun e W' ⟨he, hb⟩ => ⟨he, Lib.hid hb, HC.out i _ hA W' hb, HC.out m _ hB W' hb⟩
              have hone := Lib.hid (says_one _ _ (HVal.out i _ hA).1 (HVal.out m _ hB).1)
              obtain ⟨p1, hp1⟩ : ∃ p, saysF 10 (.mk ⟨xk, xn, xs, xa, xl, xc⟩ xt) (.mk ⟨yk, yn, ys, ya, yl, yc⟩ yt) = p := ⟨_, rfl⟩
              obtain ⟨p2, hp2⟩ : ∃ p, saysF 10 (.mk ⟨yk, yn, ys, ya, yl, yc⟩ yt) (.mk ⟨xk, xn, xs, xa, xl, xc⟩ xt) = p := ⟨_, rfl⟩
              obtain ⟨p3, hp3⟩ : ∃ p, saysF 11 (.mk ⟨xk, xn, xs, xa, xl, xc⟩ xt) (.mk ⟨yk, yn, ys, ya, yl, yc⟩ yt) = p := ⟨_, rfl⟩
              rw [hp1] at C1 hone
              rw [hp2] at C2 hone
              rw [hp3] at C3 hone
              clear hA hB hcnt hp1 hp2 hp3
              go_upto_region 20 with (fail)
              go_region_held3 (fun w' => (w'.cell? ⟨g, i * 4, none⟩ = some (.int .i64 xk) ∧ w'.cell? ⟨g, i * 4 + 1, none⟩ = some (.int .i64 xn) ∧ w'.cell? ⟨g, i * 4 + 2, none⟩ = some (.string xs) ∧ w'.cell? ⟨g, i * 4 + 3, none⟩ = some (.slice xa xl xc)) ∧ w'.cell? ⟨g, m * 4, none⟩ = some (.int .i64 yk) ∧ w'.cell? ⟨g, m * 4 + 1, none⟩ = some (.int .i64 yn) ∧ w'.cell? ⟨g, m * 4 + 2, none⟩ = some (.string ys) ∧ w'.cell? ⟨g, m * 4 + 3, none⟩ = some (.slice ya yl yc))
                (go_keep)
                (first
                  | (go_at_call 51; (with_reducible refine (C1.out _ ?_).mono ?_); (first | exact HY.out | exact HY.out.drew); rintro e W4 ⟨rfl, H4, ⟨e0, e1, e2, e3⟩, e4, e5, e6, e7⟩)
                  | (go_at_call 51; (with_reducible refine (C2.out _ ?_).mono ?_); (first | exact H4.out | exact H4.out.drew); rintro e W5 ⟨rfl, H5, ⟨e0, e1, e2, e3⟩, e4, e5, e6, e7⟩)
                  | (go_at_call 51; (with_reducible refine (C3.out _ ?_).mono ?_); (first | exact H5.out | exact H5.out.drew); rintro e W6 ⟨rfl, H6, ⟨e0, e1, e2, e3⟩, e4, e5, e6, e7⟩))
              clear C1 C2 C3 a0 a1' a2' a3' b0 b1 b2 b3 e0 e1 e2 e3 e4 e5 e6 e7
              rcases hone.out with ⟨rfl, rfl, rfl⟩ | ⟨rfl, rfl, rfl⟩ | ⟨rfl, rfl, rfl⟩
              · go_wp2_with (fail)
                go_loop [18, 109] (fun n s => ∃ (r : Nat) (c : Int), r ≤ 3 ∧ s = .int .i64 r ∧ n = .int .i64 c ∧ Hid (c = cntF 0 r)) (fun _ s => 3 - (intOf s).toNat)
                case atStart => exact ⟨0, 0, by omega, rfl, rfl, Lib.hid rfl⟩
                case round =>
                  obtain ⟨r, c, hr3, rfl, rfl, hcc⟩ := hrel
                  by_cases hr : r < 3
                  · rcases (show r = 0 ∨ r = 1 ∨ r = 2 by omega) with rfl | rfl | rfl
                    · obtain rfl : c = 0 := hcc.out
                      clear hcc hr hr3
                      go_wp2_with (fail)
                      go_round
                      case rel => exact ⟨1, 1, by omega, by go_num, rfl, Lib.hid rfl⟩
                      case measure => simp [intOf]
                    · obtain rfl : c = 1 := hcc.out
                      clear hcc hr hr3
                      go_wp2_with (fail)
                      go_round
                      case rel => exact ⟨2, 1, by omega, by go_num, rfl, Lib.hid rfl⟩
                      case measure => simp [intOf]
                    · obtain rfl : c = 1 := hcc.out
                      clear hcc hr hr3
                      go_wp2_with (fail)
                      go_round
                      case rel => exact ⟨3, 1, by omega, by go_num, rfl, Lib.hid rfl⟩
                      case measure => simp [intOf]
                  · obtain rfl : r = 3 := by omega
                    obtain rfl : c = 1 := hcc.out
                    clear hcc hr hr3
                    go_wp2_with (fail)
                    go_roundw
                    case rel => exact ⟨_, _, _, _, .int .i64 ((m : Int) + 1), ⟨m + 1, by omega, by go_num, Lib.hid (H6.out.alloc H6.out.size _)⟩, rfl, rfl, rfl, rfl, rfl⟩
                    case measure => simp [intOf]; omega
              · go_wp2_with (fail)
                go_loop [18, 109] (fun n s => ∃ (r : Nat) (c : Int), r ≤ 3 ∧ s = .int .i64 r ∧ n = .int .i64 c ∧ Hid (c = cntF 1 r)) (fun _ s => 3 - (intOf s).toNat)
                case atStart => exact ⟨0, 0, by omega, rfl, rfl, Lib.hid rfl⟩
                case round =>
                  obtain ⟨r, c, hr3, rfl, rfl, hcc⟩ := hrel
                  by_cases hr : r < 3
                  · rcases (show r = 0 ∨ r = 1 ∨ r = 2 by omega) with rfl | rfl | rfl
                    · obtain rfl : c = 0 := hcc.out
                      clear hcc hr hr3
                      go_wp2_with (fail)
                      go_round
                      case rel => exact ⟨1, 0, by omega, by go_num, rfl, Lib.hid rfl⟩
                      case measure => simp [intOf]
                    · obtain rfl : c = 0 := hcc.out
                      clear hcc hr hr3
                      go_wp2_with (fail)
                      go_round
                      case rel => exact ⟨2, 1, by omega, by go_num, rfl, Lib.hid rfl⟩
                      case measure => simp [intOf]
                    · obtain rfl : c = 1 := hcc.out
                      clear hcc hr hr3
                      go_wp2_with (fail)
                      go_round
                      case rel => exact ⟨3, 1, by omega, by go_num, rfl, Lib.hid rfl⟩
                      case measure => simp [intOf]
                  · obtain rfl : r = 3 := by omega
                    obtain rfl : c = 1 := hcc.out
                    clear hcc hr hr3
                    go_wp2_with (fail)
                    go_roundw
                    case rel => exact ⟨_, _, _, _, .int .i64 ((m : Int) + 1), ⟨m + 1, by omega, by go_num, Lib.hid (H6.out.alloc H6.out.size _)⟩, rfl, rfl, rfl, rfl, rfl⟩
                    case measure => simp [intOf]; omega
              · go_wp2_with (fail)
                go_loop [18, 109] (fun n s => ∃ (r : Nat) (c : Int), r ≤ 3 ∧ s = .int .i64 r ∧ n = .int .i64 c ∧ Hid (c = cntF 2 r)) (fun _ s => 3 - (intOf s).toNat)
                case atStart => exact ⟨0, 0, by omega, rfl, rfl, Lib.hid rfl⟩
                case round =>
                  obtain ⟨r, c, hr3, rfl, rfl, hcc⟩ := hrel
                  by_cases hr : r < 3
                  · rcases (show r = 0 ∨ r = 1 ∨ r = 2 by omega) with rfl | rfl | rfl
                    · obtain rfl : c = 0 := hcc.out
                      clear hcc hr hr3
                      go_wp2_with (fail)
                      go_round
                      case rel => exact ⟨1, 0, by omega, by go_num, rfl, Lib.hid rfl⟩
                      case measure => simp [intOf]
                    · obtain rfl : c = 0 := hcc.out
                      clear hcc hr hr3
                      go_wp2_with (fail)
                      go_round
                      case rel => exact ⟨2, 0, by omega, by go_num, rfl, Lib.hid rfl⟩
                      case measure => simp [intOf]
                    · obtain rfl : c = 0 := hcc.out
                      clear hcc hr hr3
                      go_wp2_with (fail)
                      go_round
                      case rel => exact ⟨3, 1, by omega, by go_num, rfl, Lib.hid rfl⟩
                      case measure => simp [intOf]
                  · obtain rfl : r = 3 := by omega
                    obtain rfl : c = 1 := hcc.out
                    clear hcc hr hr3
                    go_wp2_with (fail)
                    go_roundw
                    case rel => exact ⟨_, _, _, _, .int .i64 ((m : Int) + 1), ⟨m + 1, by omega, by go_num, Lib.hid (H6.out.alloc H6.out.size _)⟩, rfl, rfl, rfl, rfl, rfl⟩
                    case measure => simp [intOf]; omega
            · obtain rfl : m = 3 := by omega
              clear hm hm3
              go_wp2_with (fail)
              go_roundw
              case rel => exact ⟨i + 1, by omega, by go_num, HY⟩
              case measure => simp [intOf]; omega
        · obtain rfl : i = 3 := by omega
          clear hi hi3
          go_upto_region 30 with (fail)
          have hcnt := HCn.out
          obtain ⟨⟨⟨xk, xn, xs, xa, xl, xc⟩, xt⟩, hA⟩ : ∃ c, vs[0]? = some c := ⟨vs[0], by simp <;> omega⟩
          obtain ⟨⟨⟨yk, yn, ys, ya, yl, yc⟩, yt⟩, hB⟩ : ∃ c, vs[1]? = some c := ⟨vs[1], by simp <;> omega⟩
          obtain ⟨⟨⟨zk, zn, zs, za, zl, zc⟩, zt⟩, hC⟩ : ∃ c, vs[2]? = some c := ⟨vs[2], by simp <;> omega⟩
          have HS3 : Hid (∀ W, Below wo.heap.size wo W → W.cell? ⟨g, 0, none⟩ = some (.int .i64 xk) ∧ W.cell? ⟨g, 1, none⟩ = some (.int .i64 xn) ∧ W.cell? ⟨g, 2, none⟩ = some (.string xs) ∧ W.cell? ⟨g, 3, none⟩ = some (.slice xa xl xc) ∧ W.cell? ⟨g, 4, none⟩ = some (.int .i64 yk) ∧ W.cell? ⟨g, 5, none⟩ = some (.int .i64 yn) ∧ W.cell? ⟨g, 6, none⟩ = some (.string ys) ∧ W.cell? ⟨g, 7, none⟩ = some (.slice ya yl yc) ∧ W.cell? ⟨g, 8, none⟩ = some (.int .i64 zk) ∧ W.cell? ⟨g, 9, none⟩ = some (.int .i64 zn) ∧ W.cell? ⟨g, 10, none⟩ = some (.string zs) ∧ W.cell? ⟨g, 11, none⟩ = some (.slice za zl zc)) := Lib.hid fun W hW => by
            obtain ⟨a0, a1, a2, a3⟩ := HC.out 0 _ hA W hW
            obtain ⟨b0, b1, b2, b3⟩ := HC.out 1 _ hB W hW
            obtain ⟨d0, d1, d2, d3⟩ := HC.out 2 _ hC W hW
            exact ⟨a0, a1, a2, a3, b0, b1, b2, b3, d0, d1, d2, d3⟩
          have C1 : Hid (∀ W, Below wo.heap.size wo W → Calls Tryz.prog 51 #[.int .i64 10, .agg #[.int .i64 xk, .int .i64 xn, .string xs, .slice xa xl xc], .agg #[.int .i64 yk, .int .i64 yn, .string ys, .slice ya yl yc]] W fun e W' => e = .returned (.bool (saysF 10 (.mk ⟨xk, xn, xs, xa, xl, xc⟩ xt) (.mk ⟨yk, yn, ys, ya, yl, yc⟩ yt))) ∧ Hid (Below wo.heap.size wo W') ∧ W'.cell? ⟨g, 0, none⟩ = some (.int .i64 xk) ∧ W'.cell? ⟨g, 1, none⟩ = some (.int .i64 xn) ∧ W'.cell? ⟨g, 2, none⟩ = some (.string xs) ∧ W'.cell? ⟨g, 3, none⟩ = some (.slice xa xl xc) ∧ W'.cell? ⟨g, 4, none⟩ = some (.int .i64 yk) ∧ W'.cell? ⟨g, 5, none⟩ = some (.int .i64 yn) ∧ W'.cell? ⟨g, 6, none⟩ = some (.string ys) ∧ W'.cell? ⟨g, 7, none⟩ = some (.slice ya yl yc) ∧ W'.cell? ⟨g, 8, none⟩ = some (.int .i64 zk) ∧ W'.cell? ⟨g, 9, none⟩ = some (.int .i64 zn) ∧ W'.cell? ⟨g, 10, none⟩ = some (.string zs) ∧ W'.cell? ⟨g, 11, none⟩ = some (.slice za zl zc)) := Lib.hid fun W hW =>
            (HSay.out 10 _ _ hA hB W hW).mono fun e W' ⟨he, hb⟩ => ⟨he, Lib.hid hb, HS3.out W' hb⟩
          have C2 : Hid (∀ W, Below wo.heap.size wo W → Calls Tryz.prog 51 #[.int .i64 10, .agg #[.int .i64 yk, .int .i64 yn, .string ys, .slice ya yl yc], .agg #[.int .i64 zk, .int .i64 zn, .string zs, .slice za zl zc]] W fun e W' => e = .returned (.bool (saysF 10 (.mk ⟨yk, yn, ys, ya, yl, yc⟩ yt) (.mk ⟨zk, zn, zs, za, zl, zc⟩ zt))) ∧ Hid (Below wo.heap.size wo W') ∧ W'.cell? ⟨g, 0, none⟩ = some (.int .i64 xk) ∧ W'.cell? ⟨g, 1, none⟩ = some (.int .i64 xn) ∧ W'.cell? ⟨g, 2, none⟩ = some (.string xs) ∧ W'.cell? ⟨g, 3, none⟩ = some (.slice xa xl xc) ∧ W'.cell? ⟨g, 4, none⟩ = some (.int .i64 yk) ∧ W'.cell? ⟨g, 5, none⟩ = some (.int .i64 yn) ∧ W'.cell? ⟨g, 6, none⟩ = some (.string ys) ∧ W'.cell? ⟨g, 7, none⟩ = some (.slice ya yl yc) ∧ W'.cell? ⟨g, 8, none⟩ = some (.int .i64 zk) ∧ W'.cell? ⟨g, 9, none⟩ = some (.int .i64 zn) ∧ W'.cell? ⟨g, 10, none⟩ = some (.string zs) ∧ W'.cell? ⟨g, 11, none⟩ = some (.slice za zl zc)) := Lib.hid fun W hW =>
            (HSay.out 10 _ _ hB hC W hW).mono fun e W' ⟨he, hb⟩ => ⟨he, Lib.hid hb, HS3.out W' hb⟩
          have C3 : Hid (∀ W, Below wo.heap.size wo W → Calls Tryz.prog 51 #[.int .i64 10, .agg #[.int .i64 xk, .int .i64 xn, .string xs, .slice xa xl xc], .agg #[.int .i64 zk, .int .i64 zn, .string zs, .slice za zl zc]] W fun e W' => e = .returned (.bool (saysF 10 (.mk ⟨xk, xn, xs, xa, xl, xc⟩ xt) (.mk ⟨zk, zn, zs, za, zl, zc⟩ zt))) ∧ Hid (Below wo.heap.size wo W') ∧ W'.cell? ⟨g, 0, none⟩ = some (.int .i64 xk) ∧ W'.cell? ⟨g, 1, none⟩ = some (.int .i64 xn) ∧ W'.cell? ⟨g, 2, none⟩ = some (.string xs) ∧ W'.cell? ⟨g, 3, none⟩ = some (.slice xa xl xc) ∧ W'.cell? ⟨g, 4, none⟩ = some (.int .i64 yk) ∧ W'.cell? ⟨g, 5, none⟩ = some (.int .i64 yn) ∧ W'.cell? ⟨g, 6, none⟩ = some (.string ys) ∧ W'.cell? ⟨g, 7, none⟩ = some (.slice ya yl yc) ∧ W'.cell? ⟨g, 8, none⟩ = some (.int .i64 zk) ∧ W'.cell? ⟨g, 9, none⟩ = some (.int .i64 zn) ∧ W'.cell? ⟨g, 10, none⟩ = some (.string zs) ∧ W'.cell? ⟨g, 11, none⟩ = some (.slice za zl zc)) := Lib.hid fun W hW =>
            (HSay.out 10 _ _ hA hC W hW).mono fun e W' ⟨he, hb⟩ => ⟨he, Lib.hid hb, HS3.out W' hb⟩
          have htrn := Lib.hid (says_trn _ _ _ (HVal.out 0 _ hA).1 (HVal.out 1 _ hB).1 (HVal.out 2 _ hC).1)
          obtain ⟨p1, hp1⟩ : ∃ p, saysF 10 (.mk ⟨xk, xn, xs, xa, xl, xc⟩ xt) (.mk ⟨yk, yn, ys, ya, yl, yc⟩ yt) = p := ⟨_, rfl⟩
          obtain ⟨p2, hp2⟩ : ∃ p, saysF 10 (.mk ⟨yk, yn, ys, ya, yl, yc⟩ yt) (.mk ⟨zk, zn, zs, za, zl, zc⟩ zt) = p := ⟨_, rfl⟩
          obtain ⟨p3, hp3⟩ : ∃ p, saysF 10 (.mk ⟨xk, xn, xs, xa, xl, xc⟩ xt) (.mk ⟨zk, zn, zs, za, zl, zc⟩ zt) = p := ⟨_, rfl⟩
          rw [hp1] at C1 htrn
          rw [hp2] at C2 htrn
          rw [hp3] at C3 htrn
          obtain ⟨a0, a1', a2', a3', b0, b1, b2, b3, d0, d1, d2, d3⟩ := HS3.out wm HX.out
          clear hA hB hC hcnt hp1 hp2 hp3 HC HVal HSay HCn
          rcases (show p1 = false ∨ (p1 = true ∧ p2 = false) ∨ (p1 = true ∧ p2 = true ∧ p3 = true) by
            cases p1 <;> cases p2 <;> simp
            exact htrn.out rfl rfl) with rfl | ⟨rfl, rfl⟩ | ⟨rfl, rfl, rfl⟩
          · clear htrn C2 C3
            refine wp_region_held_drew (S := fun w' => w'.cell? ⟨g, 0, none⟩ = some (.int .i64 xk) ∧ w'.cell? ⟨g, 1, none⟩ = some (.int .i64 xn) ∧ w'.cell? ⟨g, 2, none⟩ = some (.string xs) ∧ w'.cell? ⟨g, 3, none⟩ = some (.slice xa xl xc) ∧ w'.cell? ⟨g, 4, none⟩ = some (.int .i64 yk) ∧ w'.cell? ⟨g, 5, none⟩ = some (.int .i64 yn) ∧ w'.cell? ⟨g, 6, none⟩ = some (.string ys) ∧ w'.cell? ⟨g, 7, none⟩ = some (.slice ya yl yc) ∧ w'.cell? ⟨g, 8, none⟩ = some (.int .i64 zk) ∧ w'.cell? ⟨g, 9, none⟩ = some (.int .i64 zn) ∧ w'.cell? ⟨g, 10, none⟩ = some (.string zs) ∧ w'.cell? ⟨g, 11, none⟩ = some (.slice za zl zc)) (by kernel_rfl) ?_ (fun hHeld => ?_)
            · go_keep
            · skip
              refine wpAnyH_take (i := 0) (v := .func (.func 51) #[] #[]) rfl (by kernel_rfl) (by kernel_rfl) (by kernel_rfl) (fun _ _ _ h => h) (Or.inl ⟨by rfl, fun w' hw' => by (try dsimp only at hw'); go_simp⟩) (by assumption) ?_
              try simp only [Act.put, List.getElem_toArray, List.getElem_cons_succ, List.getElem_cons_zero, List.setIfInBounds_toArray, List.set_cons_zero, List.set_cons_succ]
              refine wpAnyH_take (i := 1) (v := .slice (some ⟨g, 0, none⟩) 3 cp) rfl (by kernel_rfl) (by kernel_rfl) (by kernel_rfl) (fun _ _ _ h => h) (Or.inl ⟨by rfl, fun w' hw' => by (try dsimp only at hw'); go_simp⟩) (by assumption) ?_
              try simp only [Act.put, List.getElem_toArray, List.getElem_cons_succ, List.getElem_cons_zero, List.setIfInBounds_toArray, List.set_cons_zero, List.set_cons_succ]
              refine wpAnyH_take (i := 2) (v := .pointer (some ⟨g, 0, none⟩)) rfl (by kernel_rfl) (by kernel_rfl) (by kernel_rfl) (fun _ _ _ h => h) (Or.inl ⟨by rfl, fun w' hw' => by (try dsimp only at hw'); go_simp⟩) (by assumption) ?_
              try simp only [Act.put, List.getElem_toArray, List.getElem_cons_succ, List.getElem_cons_zero, List.setIfInBounds_toArray, List.set_cons_zero, List.set_cons_succ]
              refine wpAnyH_take (i := 3) (v := .agg #[.int .i64 xk, .int .i64 xn, .string xs, .slice xa xl xc]) rfl (by kernel_rfl) (by kernel_rfl) (by kernel_rfl) (fun _ _ _ h => h) (Or.inl ⟨by rfl, fun w' hw' => by (try dsimp only at hw'); go_simp⟩) (by assumption) ?_
              try simp only [Act.put, List.getElem_toArray, List.getElem_cons_succ, List.getElem_cons_zero, List.setIfInBounds_toArray, List.set_cons_zero, List.set_cons_succ]
              refine wpAnyH_take (i := 4) (v := .slice (some ⟨g, 0, none⟩) 3 cp) rfl (by kernel_rfl) (by kernel_rfl) (by kernel_rfl) (fun _ _ _ h => h) (Or.inl ⟨by rfl, fun w' hw' => by (try dsimp only at hw'); go_simp⟩) (by assumption) ?_
              try simp only [Act.put, List.getElem_toArray, List.getElem_cons_succ, List.getElem_cons_zero, List.setIfInBounds_toArray, List.set_cons_zero, List.set_cons_succ]
              refine wpAnyH_take (i := 5) (v := .pointer (some ⟨g, 4, none⟩)) rfl (by kernel_rfl) (by kernel_rfl) (by kernel_rfl) (fun _ _ _ h => h) (Or.inl ⟨by rfl, fun w' hw' => by (try dsimp only at hw'); go_simp⟩) (by assumption) ?_
              try simp only [Act.put, List.getElem_toArray, List.getElem_cons_succ, List.getElem_cons_zero, List.setIfInBounds_toArray, List.set_cons_zero, List.set_cons_succ]
              refine wpAnyH_take (i := 6) (v := .agg #[.int .i64 yk, .int .i64 yn, .string ys, .slice ya yl yc]) rfl (by kernel_rfl) (by kernel_rfl) (by kernel_rfl) (fun _ _ _ h => h) (Or.inl ⟨by rfl, fun w' hw' => by (try dsimp only at hw'); go_simp⟩) (by assumption) ?_
              try simp only [Act.put, List.getElem_toArray, List.getElem_cons_succ, List.getElem_cons_zero, List.setIfInBounds_toArray, List.set_cons_zero, List.set_cons_succ]
              refine wpAnyH_ready (rs := [7]) (by kernel_rfl) (by simp) ?_
              refine AllReadyH.cons rfl (fun K hK => ?_) AllReadyH.nil
              go_simp
              (go_at_call 51; (with_reducible refine (C1.out _ ?_).mono ?_); (first | exact HX.out | exact HX.out.drew); rintro e W0 ⟨rfl, H0, e0, e1, e2, e3, e4, e5, e6, e7, e8, e9, e10, e11⟩)
              go_wp2_with (fail)
              refine hK.out _ _ ?_ (fun hHeld => ?_)
              · go_keep
              clear hK K
              try simp only [Act.put, List.getElem_toArray, List.getElem_cons_succ, List.getElem_cons_zero, List.setIfInBounds_toArray, List.set_cons_zero, List.set_cons_succ]
              refine wpAnyH_take (i := 8) (v := .bool true) rfl (by kernel_rfl) (by kernel_rfl) (by kernel_rfl) (fun _ _ _ h => h) (Or.inl ⟨by rfl, fun w' hw' => by (try dsimp only at hw'); go_simp⟩) (by assumption) ?_
              try simp only [Act.put, List.getElem_toArray, List.getElem_cons_succ, List.getElem_cons_zero, List.setIfInBounds_toArray, List.set_cons_zero, List.set_cons_succ]
              refine wpAnyH_take (i := 9) (v := .bool true) rfl (by kernel_rfl) (by kernel_rfl) (by kernel_rfl) (fun _ _ _ h => h) (Or.inl ⟨by rfl, fun w' hw' => by (try dsimp only at hw'); go_simp⟩) (by assumption) ?_
              try simp only [Act.put, List.getElem_toArray, List.getElem_cons_succ, List.getElem_cons_zero, List.setIfInBounds_toArray, List.set_cons_zero, List.set_cons_succ]
              refine wpAnyH_take (i := 10) (v := undef) rfl (by kernel_rfl) (by kernel_rfl) (by kernel_rfl) (fun _ _ _ h => h) (Or.inr ⟨by simp [Region.wanted, yielded], rfl⟩) (by assumption) ?_
              try simp only [Act.put, List.getElem_toArray, List.getElem_cons_succ, List.getElem_cons_zero, List.setIfInBounds_toArray, List.set_cons_zero, List.set_cons_succ]
              refine wpAnyH_take (i := 11) (v := undef) rfl (by kernel_rfl) (by kernel_rfl) (by kernel_rfl) (fun _ _ _ h => h) (Or.inr ⟨by simp [Region.wanted, yielded], rfl⟩) (by assumption) ?_
              try simp only [Act.put, List.getElem_toArray, List.getElem_cons_succ, List.getElem_cons_zero, List.setIfInBounds_toArray, List.set_cons_zero, List.set_cons_succ]
              refine wpAnyH_take (i := 12) (v := undef) rfl (by kernel_rfl) (by kernel_rfl) (by kernel_rfl) (fun _ _ _ h => h) (Or.inr ⟨by simp [Region.wanted, yielded], rfl⟩) (by assumption) ?_
              try simp only [Act.put, List.getElem_toArray, List.getElem_cons_succ, List.getElem_cons_zero, List.setIfInBounds_toArray, List.set_cons_zero, List.set_cons_succ]
              refine wpAnyH_take (i := 13) (v := undef) rfl (by kernel_rfl) (by kernel_rfl) (by kernel_rfl) (fun _ _ _ h => h) (Or.inr ⟨by simp [Region.wanted, yielded], rfl⟩) (by assumption) ?_
              try simp only [Act.put, List.getElem_toArray, List.getElem_cons_succ, List.getElem_cons_zero, List.setIfInBounds_toArray, List.set_cons_zero, List.set_cons_succ]
              refine wpAnyH_take (i := 14) (v := undef) rfl (by kernel_rfl) (by kernel_rfl) (by kernel_rfl) (fun _ _ _ h => h) (Or.inr ⟨by simp [Region.wanted, yielded], rfl⟩) (by assumption) ?_
              try simp only [Act.put, List.getElem_toArray, List.getElem_cons_succ, List.getElem_cons_zero, List.setIfInBounds_toArray, List.set_cons_zero, List.set_cons_succ]
              refine wpAnyH_take (i := 15) (v := undef) rfl (by kernel_rfl) (by kernel_rfl) (by kernel_rfl) (fun _ _ _ h => h) (Or.inr ⟨by simp [Region.wanted, yielded], rfl⟩) (by assumption) ?_
              try simp only [Act.put, List.getElem_toArray, List.getElem_cons_succ, List.getElem_cons_zero, List.setIfInBounds_toArray, List.set_cons_zero, List.set_cons_succ]
              refine wpAnyH_take (i := 16) (v := undef) rfl (by kernel_rfl) (by kernel_rfl) (by kernel_rfl) (fun _ _ _ h => h) (Or.inr ⟨by simp [Region.wanted, yielded], rfl⟩) (by assumption) ?_
              try simp only [Act.put, List.getElem_toArray, List.getElem_cons_succ, List.getElem_cons_zero, List.setIfInBounds_toArray, List.set_cons_zero, List.set_cons_succ]
              refine wpAnyH_ready (rs := [17]) (by kernel_rfl) (by simp) ?_
              refine AllReadyH.cons rfl (fun K hK => ?_) AllReadyH.nil
              go_simp
              refine hK.out _ _ ?_ (fun hHeld => ?_)
              · go_keep
              clear hK K
              try simp only [Act.put, List.getElem_toArray, List.getElem_cons_succ, List.getElem_cons_zero, List.setIfInBounds_toArray, List.set_cons_zero, List.set_cons_succ]
              refine wpAnyH_take (i := 18) (v := undef) rfl (by kernel_rfl) (by kernel_rfl) (by kernel_rfl) (fun _ _ _ h => h) (Or.inr ⟨by simp [Region.wanted, yielded], rfl⟩) (by assumption) ?_
              try simp only [Act.put, List.getElem_toArray, List.getElem_cons_succ, List.getElem_cons_zero, List.setIfInBounds_toArray, List.set_cons_zero, List.set_cons_succ]
              refine wpAnyH_take (i := 19) (v := .bool true) rfl (by kernel_rfl) (by kernel_rfl) (by kernel_rfl) (fun _ _ _ h => h) (Or.inl ⟨by rfl, fun w' hw' => by (try dsimp only at hw'); go_simp⟩) (by assumption) ?_
              try simp only [Act.put, List.getElem_toArray, List.getElem_cons_succ, List.getElem_cons_zero, List.setIfInBounds_toArray, List.set_cons_zero, List.set_cons_succ]
              refine wpAnyH_take (i := 20) (v := .bool true) rfl (by kernel_rfl) (by kernel_rfl) (by kernel_rfl) (fun _ _ _ h => h) (Or.inl ⟨by rfl, fun w' hw' => by (try dsimp only at hw'); go_simp⟩) (by assumption) ?_
              try simp only [Act.put, List.getElem_toArray, List.getElem_cons_succ, List.getElem_cons_zero, List.setIfInBounds_toArray, List.set_cons_zero, List.set_cons_succ]
              refine wpAnyH_take (i := 21) (v := undef) rfl (by kernel_rfl) (by kernel_rfl) (by kernel_rfl) (fun _ _ _ h => h) (Or.inr ⟨by simp [Region.wanted, yielded], rfl⟩) (by assumption) ?_
              try simp only [Act.put, List.getElem_toArray, List.getElem_cons_succ, List.getElem_cons_zero, List.setIfInBounds_toArray, List.set_cons_zero, List.set_cons_succ]
              refine wpAnyH_take (i := 22) (v := undef) rfl (by kernel_rfl) (by kernel_rfl) (by kernel_rfl) (fun _ _ _ h => h) (Or.inr ⟨by simp [Region.wanted, yielded], rfl⟩) (by assumption) ?_
              try simp only [Act.put, List.getElem_toArray, List.getElem_cons_succ, List.getElem_cons_zero, List.setIfInBounds_toArray, List.set_cons_zero, List.set_cons_succ]
              refine wpAnyH_take (i := 23) (v := undef) rfl (by kernel_rfl) (by kernel_rfl) (by kernel_rfl) (fun _ _ _ h => h) (Or.inr ⟨by simp [Region.wanted, yielded], rfl⟩) (by assumption) ?_
              try simp only [Act.put, List.getElem_toArray, List.getElem_cons_succ, List.getElem_cons_zero, List.setIfInBounds_toArray, List.set_cons_zero, List.set_cons_succ]
              refine wpAnyH_take (i := 24) (v := undef) rfl (by kernel_rfl) (by kernel_rfl) (by kernel_rfl) (fun _ _ _ h => h) (Or.inr ⟨by simp [Region.wanted, yielded], rfl⟩) (by assumption) ?_
              try simp only [Act.put, List.getElem_toArray, List.getElem_cons_succ, List.getElem_cons_zero, List.setIfInBounds_toArray, List.set_cons_zero, List.set_cons_succ]
              refine wpAnyH_take (i := 25) (v := undef) rfl (by kernel_rfl) (by kernel_rfl) (by kernel_rfl) (fun _ _ _ h => h) (Or.inr ⟨by simp [Region.wanted, yielded], rfl⟩) (by assumption) ?_
              try simp only [Act.put, List.getElem_toArray, List.getElem_cons_succ, List.getElem_cons_zero, List.setIfInBounds_toArray, List.set_cons_zero, List.set_cons_succ]
              refine wpAnyH_take (i := 26) (v := undef) rfl (by kernel_rfl) (by kernel_rfl) (by kernel_rfl) (fun _ _ _ h => h) (Or.inr ⟨by simp [Region.wanted, yielded], rfl⟩) (by assumption) ?_
              try simp only [Act.put, List.getElem_toArray, List.getElem_cons_succ, List.getElem_cons_zero, List.setIfInBounds_toArray, List.set_cons_zero, List.set_cons_succ]
              refine wpAnyH_take (i := 27) (v := undef) rfl (by kernel_rfl) (by kernel_rfl) (by kernel_rfl) (fun _ _ _ h => h) (Or.inr ⟨by simp [Region.wanted, yielded], rfl⟩) (by assumption) ?_
              try simp only [Act.put, List.getElem_toArray, List.getElem_cons_succ, List.getElem_cons_zero, List.setIfInBounds_toArray, List.set_cons_zero, List.set_cons_succ]
              refine wpAnyH_ready (rs := [28]) (by kernel_rfl) (by simp) ?_
              refine AllReadyH.cons rfl (fun K hK => ?_) AllReadyH.nil
              go_simp
              refine hK.out _ _ ?_ (fun hHeld => ?_)
              · go_keep
              clear hK K
              try simp only [Act.put, List.getElem_toArray, List.getElem_cons_succ, List.getElem_cons_zero, List.setIfInBounds_toArray, List.set_cons_zero, List.set_cons_succ]
              refine wpAnyH_take (i := 29) (v := .bool true) rfl (by kernel_rfl) (by kernel_rfl) (by kernel_rfl) (fun _ _ _ h => h) (Or.inl ⟨by rfl, fun w' hw' => by (try dsimp only at hw'); go_simp⟩) (by assumption) ?_
              try simp only [Act.put, List.getElem_toArray, List.getElem_cons_succ, List.getElem_cons_zero, List.setIfInBounds_toArray, List.set_cons_zero, List.set_cons_succ]
              refine wpAnyH_take (i := 30) (v := .bool true) rfl (by kernel_rfl) (by kernel_rfl) (by kernel_rfl) (fun _ _ _ h => h) (Or.inl ⟨by rfl, fun w' hw' => by (try dsimp only at hw'); go_simp⟩) (by assumption) ?_
              try simp only [Act.put, List.getElem_toArray, List.getElem_cons_succ, List.getElem_cons_zero, List.setIfInBounds_toArray, List.set_cons_zero, List.set_cons_succ]
              refine wpAnyH_ready (rs := [31]) (by kernel_rfl) (by simp) ?_
              refine AllReadyH.cons rfl (fun K hK => ?_) AllReadyH.nil
              go_simp
              (go_at_call 15; refine (HV.out _ (HB0.out.trans (H0.out.mono HB0.out.size))).mono ?_; rintro e Wz ⟨rfl, Hz'⟩; have Hz := Lib.hid ((HB0.out.trans (H0.out.mono HB0.out.size)).trans (Hz'.mono (HB0.out.trans (H0.out.mono HB0.out.size)).size)); have HS3z := HS3.out Wz (H0.out.trans (Hz'.mono H0.out.size)); obtain ⟨e0, e1, e2, e3, e4, e5, e6, e7, e8, e9, e10, e11⟩ := HS3z)
              go_wp2_with (fail)
              refine hK.out _ _ ?_ (fun hHeld => ?_)
              · go_keep
              clear hK K
              try simp only [Act.put, List.getElem_toArray, List.getElem_cons_succ, List.getElem_cons_zero, List.setIfInBounds_toArray, List.set_cons_zero, List.set_cons_succ]
              refine wpAnyH_take (i := 32) (v := .bool true) rfl (by kernel_rfl) (by kernel_rfl) (by kernel_rfl) (fun _ _ _ h => h) (Or.inl ⟨by rfl, fun w' hw' => by (try dsimp only at hw'); go_simp⟩) (by assumption) ?_
              try simp only [Act.put, List.getElem_toArray, List.getElem_cons_succ, List.getElem_cons_zero, List.setIfInBounds_toArray, List.set_cons_zero, List.set_cons_succ]
              refine wpAnyH_take (i := 33) (v := .bool true) rfl (by kernel_rfl) (by kernel_rfl) (by kernel_rfl) (fun _ _ _ h => h) (Or.inl ⟨by rfl, fun w' hw' => by (try dsimp only at hw'); go_simp⟩) (by assumption) ?_
              try simp only [Act.put, List.getElem_toArray, List.getElem_cons_succ, List.getElem_cons_zero, List.setIfInBounds_toArray, List.set_cons_zero, List.set_cons_succ]
              refine wpAnyH_done (by kernel_rfl) ?_ _
              go_wp2_with (fail)
              go_ret
              exact ⟨rfl, Hz.out⟩
          · clear htrn C3
            refine wp_region_held_drew (S := fun w' => w'.cell? ⟨g, 0, none⟩ = some (.int .i64 xk) ∧ w'.cell? ⟨g, 1, none⟩ = some (.int .i64 xn) ∧ w'.cell? ⟨g, 2, none⟩ = some (.string xs) ∧ w'.cell? ⟨g, 3, none⟩ = some (.slice xa xl xc) ∧ w'.cell? ⟨g, 4, none⟩ = some (.int .i64 yk) ∧ w'.cell? ⟨g, 5, none⟩ = some (.int .i64 yn) ∧ w'.cell? ⟨g, 6, none⟩ = some (.string ys) ∧ w'.cell? ⟨g, 7, none⟩ = some (.slice ya yl yc) ∧ w'.cell? ⟨g, 8, none⟩ = some (.int .i64 zk) ∧ w'.cell? ⟨g, 9, none⟩ = some (.int .i64 zn) ∧ w'.cell? ⟨g, 10, none⟩ = some (.string zs) ∧ w'.cell? ⟨g, 11, none⟩ = some (.slice za zl zc)) (by kernel_rfl) ?_ (fun hHeld => ?_)
            · go_keep
            · skip
              refine wpAnyH_take (i := 0) (v := .func (.func 51) #[] #[]) rfl (by kernel_rfl) (by kernel_rfl) (by kernel_rfl) (fun _ _ _ h => h) (Or.inl ⟨by rfl, fun w' hw' => by (try dsimp only at hw'); go_simp⟩) (by assumption) ?_
              try simp only [Act.put, List.getElem_toArray, List.getElem_cons_succ, List.getElem_cons_zero, List.setIfInBounds_toArray, List.set_cons_zero, List.set_cons_succ]
              refine wpAnyH_take (i := 1) (v := .slice (some ⟨g, 0, none⟩) 3 cp) rfl (by kernel_rfl) (by kernel_rfl) (by kernel_rfl) (fun _ _ _ h => h) (Or.inl ⟨by rfl, fun w' hw' => by (try dsimp only at hw'); go_simp⟩) (by assumption) ?_
              try simp only [Act.put, List.getElem_toArray, List.getElem_cons_succ, List.getElem_cons_zero, List.setIfInBounds_toArray, List.set_cons_zero, List.set_cons_succ]
              refine wpAnyH_take (i := 2) (v := .pointer (some ⟨g, 0, none⟩)) rfl (by kernel_rfl) (by kernel_rfl) (by kernel_rfl) (fun _ _ _ h => h) (Or.inl ⟨by rfl, fun w' hw' => by (try dsimp only at hw'); go_simp⟩) (by assumption) ?_
              try simp only [Act.put, List.getElem_toArray, List.getElem_cons_succ, List.getElem_cons_zero, List.setIfInBounds_toArray, List.set_cons_zero, List.set_cons_succ]
              refine wpAnyH_take (i := 3) (v := .agg #[.int .i64 xk, .int .i64 xn, .string xs, .slice xa xl xc]) rfl (by kernel_rfl) (by kernel_rfl) (by kernel_rfl) (fun _ _ _ h => h) (Or.inl ⟨by rfl, fun w' hw' => by (try dsimp only at hw'); go_simp⟩) (by assumption) ?_
              try simp only [Act.put, List.getElem_toArray, List.getElem_cons_succ, List.getElem_cons_zero, List.setIfInBounds_toArray, List.set_cons_zero, List.set_cons_succ]
              refine wpAnyH_take (i := 4) (v := .slice (some ⟨g, 0, none⟩) 3 cp) rfl (by kernel_rfl) (by kernel_rfl) (by kernel_rfl) (fun _ _ _ h => h) (Or.inl ⟨by rfl, fun w' hw' => by (try dsimp only at hw'); go_simp⟩) (by assumption) ?_
              try simp only [Act.put, List.getElem_toArray, List.getElem_cons_succ, List.getElem_cons_zero, List.setIfInBounds_toArray, List.set_cons_zero, List.set_cons_succ]
              refine wpAnyH_take (i := 5) (v := .pointer (some ⟨g, 4, none⟩)) rfl (by kernel_rfl) (by kernel_rfl) (by kernel_rfl) (fun _ _ _ h => h) (Or.inl ⟨by rfl, fun w' hw' => by (try dsimp only at hw'); go_simp⟩) (by assumption) ?_
              try simp only [Act.put, List.getElem_toArray, List.getElem_cons_succ, List.getElem_cons_zero, List.setIfInBounds_toArray, List.set_cons_zero, List.set_cons_succ]
              refine wpAnyH_take (i := 6) (v := .agg #[.int .i64 yk, .int .i64 yn, .string ys, .slice ya yl yc]) rfl (by kernel_rfl) (by kernel_rfl) (by kernel_rfl) (fun _ _ _ h => h) (Or.inl ⟨by rfl, fun w' hw' => by (try dsimp only at hw'); go_simp⟩) (by assumption) ?_
              try simp only [Act.put, List.getElem_toArray, List.getElem_cons_succ, List.getElem_cons_zero, List.setIfInBounds_toArray, List.set_cons_zero, List.set_cons_succ]
              refine wpAnyH_ready (rs := [7]) (by kernel_rfl) (by simp) ?_
              refine AllReadyH.cons rfl (fun K hK => ?_) AllReadyH.nil
              go_simp
              (go_at_call 51; (with_reducible refine (C1.out _ ?_).mono ?_); (first | exact HX.out | exact HX.out.drew); rintro e W0 ⟨rfl, H0, e0, e1, e2, e3, e4, e5, e6, e7, e8, e9, e10, e11⟩)
              go_wp2_with (fail)
              refine hK.out _ _ ?_ (fun hHeld => ?_)
              · go_keep
              clear hK K
              try simp only [Act.put, List.getElem_toArray, List.getElem_cons_succ, List.getElem_cons_zero, List.setIfInBounds_toArray, List.set_cons_zero, List.set_cons_succ]
              refine wpAnyH_take (i := 8) (v := .bool false) rfl (by kernel_rfl) (by kernel_rfl) (by kernel_rfl) (fun _ _ _ h => h) (Or.inl ⟨by rfl, fun w' hw' => by (try dsimp only at hw'); go_simp⟩) (by assumption) ?_
              try simp only [Act.put, List.getElem_toArray, List.getElem_cons_succ, List.getElem_cons_zero, List.setIfInBounds_toArray, List.set_cons_zero, List.set_cons_succ]
              refine wpAnyH_take (i := 9) (v := .bool false) rfl (by kernel_rfl) (by kernel_rfl) (by kernel_rfl) (fun _ _ _ h => h) (Or.inl ⟨by rfl, fun w' hw' => by (try dsimp only at hw'); go_simp⟩) (by assumption) ?_
              try simp only [Act.put, List.getElem_toArray, List.getElem_cons_succ, List.getElem_cons_zero, List.setIfInBounds_toArray, List.set_cons_zero, List.set_cons_succ]
              refine wpAnyH_take (i := 10) (v := .func (.func 51) #[] #[]) rfl (by kernel_rfl) (by kernel_rfl) (by kernel_rfl) (fun _ _ _ h => h) (Or.inl ⟨by simp [Region.wanted, yielded], fun w' hw' => by (try dsimp only at hw'); go_simp⟩) (by assumption) ?_
              try simp only [Act.put, List.getElem_toArray, List.getElem_cons_succ, List.getElem_cons_zero, List.setIfInBounds_toArray, List.set_cons_zero, List.set_cons_succ]
              refine wpAnyH_take (i := 11) (v := .slice (some ⟨g, 0, none⟩) 3 cp) rfl (by kernel_rfl) (by kernel_rfl) (by kernel_rfl) (fun _ _ _ h => h) (Or.inl ⟨by simp [Region.wanted, yielded], fun w' hw' => by (try dsimp only at hw'); go_simp⟩) (by assumption) ?_
              try simp only [Act.put, List.getElem_toArray, List.getElem_cons_succ, List.getElem_cons_zero, List.setIfInBounds_toArray, List.set_cons_zero, List.set_cons_succ]
              refine wpAnyH_take (i := 12) (v := .pointer (some ⟨g, 4, none⟩)) rfl (by kernel_rfl) (by kernel_rfl) (by kernel_rfl) (fun _ _ _ h => h) (Or.inl ⟨by simp [Region.wanted, yielded], fun w' hw' => by (try dsimp only at hw'); go_simp⟩) (by assumption) ?_
              try simp only [Act.put, List.getElem_toArray, List.getElem_cons_succ, List.getElem_cons_zero, List.setIfInBounds_toArray, List.set_cons_zero, List.set_cons_succ]
              refine wpAnyH_take (i := 13) (v := .agg #[.int .i64 yk, .int .i64 yn, .string ys, .slice ya yl yc]) rfl (by kernel_rfl) (by kernel_rfl) (by kernel_rfl) (fun _ _ _ h => h) (Or.inl ⟨by simp [Region.wanted, yielded], fun w' hw' => by (try dsimp only at hw'); go_simp⟩) (by assumption) ?_
              try simp only [Act.put, List.getElem_toArray, List.getElem_cons_succ, List.getElem_cons_zero, List.setIfInBounds_toArray, List.set_cons_zero, List.set_cons_succ]
              refine wpAnyH_take (i := 14) (v := .slice (some ⟨g, 0, none⟩) 3 cp) rfl (by kernel_rfl) (by kernel_rfl) (by kernel_rfl) (fun _ _ _ h => h) (Or.inl ⟨by simp [Region.wanted, yielded], fun w' hw' => by (try dsimp only at hw'); go_simp⟩) (by assumption) ?_
              try simp only [Act.put, List.getElem_toArray, List.getElem_cons_succ, List.getElem_cons_zero, List.setIfInBounds_toArray, List.set_cons_zero, List.set_cons_succ]
              refine wpAnyH_take (i := 15) (v := .pointer (some ⟨g, 8, none⟩)) rfl (by kernel_rfl) (by kernel_rfl) (by kernel_rfl) (fun _ _ _ h => h) (Or.inl ⟨by simp [Region.wanted, yielded], fun w' hw' => by (try dsimp only at hw'); go_simp⟩) (by assumption) ?_
              try simp only [Act.put, List.getElem_toArray, List.getElem_cons_succ, List.getElem_cons_zero, List.setIfInBounds_toArray, List.set_cons_zero, List.set_cons_succ]
              refine wpAnyH_take (i := 16) (v := .agg #[.int .i64 zk, .int .i64 zn, .string zs, .slice za zl zc]) rfl (by kernel_rfl) (by kernel_rfl) (by kernel_rfl) (fun _ _ _ h => h) (Or.inl ⟨by simp [Region.wanted, yielded], fun w' hw' => by (try dsimp only at hw'); go_simp⟩) (by assumption) ?_
              try simp only [Act.put, List.getElem_toArray, List.getElem_cons_succ, List.getElem_cons_zero, List.setIfInBounds_toArray, List.set_cons_zero, List.set_cons_succ]
              refine wpAnyH_ready (rs := [17]) (by kernel_rfl) (by simp) ?_
              refine AllReadyH.cons rfl (fun K hK => ?_) AllReadyH.nil
              go_simp
              (go_at_call 51; (with_reducible refine (C2.out _ ?_).mono ?_); (first | exact H0.out | exact H0.out.drew); rintro e W1 ⟨rfl, H1, e0, e1, e2, e3, e4, e5, e6, e7, e8, e9, e10, e11⟩)
              go_wp2_with (fail)
              refine hK.out _ _ ?_ (fun hHeld => ?_)
              · go_keep
              clear hK K
              try simp only [Act.put, List.getElem_toArray, List.getElem_cons_succ, List.getElem_cons_zero, List.setIfInBounds_toArray, List.set_cons_zero, List.set_cons_succ]
              refine wpAnyH_take (i := 18) (v := .bool true) rfl (by kernel_rfl) (by kernel_rfl) (by kernel_rfl) (fun _ _ _ h => h) (Or.inl ⟨by simp [Region.wanted, yielded], fun w' hw' => by (try dsimp only at hw'); go_simp⟩) (by assumption) ?_
              try simp only [Act.put, List.getElem_toArray, List.getElem_cons_succ, List.getElem_cons_zero, List.setIfInBounds_toArray, List.set_cons_zero, List.set_cons_succ]
              refine wpAnyH_take (i := 19) (v := .bool true) rfl (by kernel_rfl) (by kernel_rfl) (by kernel_rfl) (fun _ _ _ h => h) (Or.inl ⟨by rfl, fun w' hw' => by (try dsimp only at hw'); go_simp⟩) (by assumption) ?_
              try simp only [Act.put, List.getElem_toArray, List.getElem_cons_succ, List.getElem_cons_zero, List.setIfInBounds_toArray, List.set_cons_zero, List.set_cons_succ]
              refine wpAnyH_take (i := 20) (v := .bool true) rfl (by kernel_rfl) (by kernel_rfl) (by kernel_rfl) (fun _ _ _ h => h) (Or.inl ⟨by rfl, fun w' hw' => by (try dsimp only at hw'); go_simp⟩) (by assumption) ?_
              try simp only [Act.put, List.getElem_toArray, List.getElem_cons_succ, List.getElem_cons_zero, List.setIfInBounds_toArray, List.set_cons_zero, List.set_cons_succ]
              refine wpAnyH_take (i := 21) (v := undef) rfl (by kernel_rfl) (by kernel_rfl) (by kernel_rfl) (fun _ _ _ h => h) (Or.inr ⟨by simp [Region.wanted, yielded], rfl⟩) (by assumption) ?_
              try simp only [Act.put, List.getElem_toArray, List.getElem_cons_succ, List.getElem_cons_zero, List.setIfInBounds_toArray, List.set_cons_zero, List.set_cons_succ]
              refine wpAnyH_take (i := 22) (v := undef) rfl (by kernel_rfl) (by kernel_rfl) (by kernel_rfl) (fun _ _ _ h => h) (Or.inr ⟨by simp [Region.wanted, yielded], rfl⟩) (by assumption) ?_
              try simp only [Act.put, List.getElem_toArray, List.getElem_cons_succ, List.getElem_cons_zero, List.setIfInBounds_toArray, List.set_cons_zero, List.set_cons_succ]
              refine wpAnyH_take (i := 23) (v := undef) rfl (by kernel_rfl) (by kernel_rfl) (by kernel_rfl) (fun _ _ _ h => h) (Or.inr ⟨by simp [Region.wanted, yielded], rfl⟩) (by assumption) ?_
              try simp only [Act.put, List.getElem_toArray, List.getElem_cons_succ, List.getElem_cons_zero, List.setIfInBounds_toArray, List.set_cons_zero, List.set_cons_succ]
              refine wpAnyH_take (i := 24) (v := undef) rfl (by kernel_rfl) (by kernel_rfl) (by kernel_rfl) (fun _ _ _ h => h) (Or.inr ⟨by simp [Region.wanted, yielded], rfl⟩) (by assumption) ?_
              try simp only [Act.put, List.getElem_toArray, List.getElem_cons_succ, List.getElem_cons_zero, List.setIfInBounds_toArray, List.set_cons_zero, List.set_cons_succ]
              refine wpAnyH_take (i := 25) (v := undef) rfl (by kernel_rfl) (by kernel_rfl) (by kernel_rfl) (fun _ _ _ h => h) (Or.inr ⟨by simp [Region.wanted, yielded], rfl⟩) (by assumption) ?_
              try simp only [Act.put, List.getElem_toArray, List.getElem_cons_succ, List.getElem_cons_zero, List.setIfInBounds_toArray, List.set_cons_zero, List.set_cons_succ]
              refine wpAnyH_take (i := 26) (v := undef) rfl (by kernel_rfl) (by kernel_rfl) (by kernel_rfl) (fun _ _ _ h => h) (Or.inr ⟨by simp [Region.wanted, yielded], rfl⟩) (by assumption) ?_
              try simp only [Act.put, List.getElem_toArray, List.getElem_cons_succ, List.getElem_cons_zero, List.setIfInBounds_toArray, List.set_cons_zero, List.set_cons_succ]
              refine wpAnyH_take (i := 27) (v := undef) rfl (by kernel_rfl) (by kernel_rfl) (by kernel_rfl) (fun _ _ _ h => h) (Or.inr ⟨by simp [Region.wanted, yielded], rfl⟩) (by assumption) ?_
              try simp only [Act.put, List.getElem_toArray, List.getElem_cons_succ, List.getElem_cons_zero, List.setIfInBounds_toArray, List.set_cons_zero, List.set_cons_succ]
              refine wpAnyH_ready (rs := [28]) (by kernel_rfl) (by simp) ?_
              refine AllReadyH.cons rfl (fun K hK => ?_) AllReadyH.nil
              go_simp
              refine hK.out _ _ ?_ (fun hHeld => ?_)
              · go_keep
              clear hK K
              try simp only [Act.put, List.getElem_toArray, List.getElem_cons_succ, List.getElem_cons_zero, List.setIfInBounds_toArray, List.set_cons_zero, List.set_cons_succ]
              refine wpAnyH_take (i := 29) (v := .bool true) rfl (by kernel_rfl) (by kernel_rfl) (by kernel_rfl) (fun _ _ _ h => h) (Or.inl ⟨by rfl, fun w' hw' => by (try dsimp only at hw'); go_simp⟩) (by assumption) ?_
              try simp only [Act.put, List.getElem_toArray, List.getElem_cons_succ, List.getElem_cons_zero, List.setIfInBounds_toArray, List.set_cons_zero, List.set_cons_succ]
              refine wpAnyH_take (i := 30) (v := .bool true) rfl (by kernel_rfl) (by kernel_rfl) (by kernel_rfl) (fun _ _ _ h => h) (Or.inl ⟨by rfl, fun w' hw' => by (try dsimp only at hw'); go_simp⟩) (by assumption) ?_
              try simp only [Act.put, List.getElem_toArray, List.getElem_cons_succ, List.getElem_cons_zero, List.setIfInBounds_toArray, List.set_cons_zero, List.set_cons_succ]
              refine wpAnyH_ready (rs := [31]) (by kernel_rfl) (by simp) ?_
              refine AllReadyH.cons rfl (fun K hK => ?_) AllReadyH.nil
              go_simp
              (go_at_call 15; refine (HV.out _ (HB0.out.trans (H1.out.mono HB0.out.size))).mono ?_; rintro e Wz ⟨rfl, Hz'⟩; have Hz := Lib.hid ((HB0.out.trans (H1.out.mono HB0.out.size)).trans (Hz'.mono (HB0.out.trans (H1.out.mono HB0.out.size)).size)); have HS3z := HS3.out Wz (H1.out.trans (Hz'.mono H1.out.size)); obtain ⟨e0, e1, e2, e3, e4, e5, e6, e7, e8, e9, e10, e11⟩ := HS3z)
              go_wp2_with (fail)
              refine hK.out _ _ ?_ (fun hHeld => ?_)
              · go_keep
              clear hK K
              try simp only [Act.put, List.getElem_toArray, List.getElem_cons_succ, List.getElem_cons_zero, List.setIfInBounds_toArray, List.set_cons_zero, List.set_cons_succ]
              refine wpAnyH_take (i := 32) (v := .bool true) rfl (by kernel_rfl) (by kernel_rfl) (by kernel_rfl) (fun _ _ _ h => h) (Or.inl ⟨by rfl, fun w' hw' => by (try dsimp only at hw'); go_simp⟩) (by assumption) ?_
              try simp only [Act.put, List.getElem_toArray, List.getElem_cons_succ, List.getElem_cons_zero, List.setIfInBounds_toArray, List.set_cons_zero, List.set_cons_succ]
              refine wpAnyH_take (i := 33) (v := .bool true) rfl (by kernel_rfl) (by kernel_rfl) (by kernel_rfl) (fun _ _ _ h => h) (Or.inl ⟨by rfl, fun w' hw' => by (try dsimp only at hw'); go_simp⟩) (by assumption) ?_
              try simp only [Act.put, List.getElem_toArray, List.getElem_cons_succ, List.getElem_cons_zero, List.setIfInBounds_toArray, List.set_cons_zero, List.set_cons_succ]
              refine wpAnyH_done (by kernel_rfl) ?_ _
              go_wp2_with (fail)
              go_ret
              exact ⟨rfl, Hz.out⟩
          · clear htrn
            refine wp_region_held_drew (S := fun w' => w'.cell? ⟨g, 0, none⟩ = some (.int .i64 xk) ∧ w'.cell? ⟨g, 1, none⟩ = some (.int .i64 xn) ∧ w'.cell? ⟨g, 2, none⟩ = some (.string xs) ∧ w'.cell? ⟨g, 3, none⟩ = some (.slice xa xl xc) ∧ w'.cell? ⟨g, 4, none⟩ = some (.int .i64 yk) ∧ w'.cell? ⟨g, 5, none⟩ = some (.int .i64 yn) ∧ w'.cell? ⟨g, 6, none⟩ = some (.string ys) ∧ w'.cell? ⟨g, 7, none⟩ = some (.slice ya yl yc) ∧ w'.cell? ⟨g, 8, none⟩ = some (.int .i64 zk) ∧ w'.cell? ⟨g, 9, none⟩ = some (.int .i64 zn) ∧ w'.cell? ⟨g, 10, none⟩ = some (.string zs) ∧ w'.cell? ⟨g, 11, none⟩ = some (.slice za zl zc)) (by kernel_rfl) ?_ (fun hHeld => ?_)
            · go_keep
            · skip
              refine wpAnyH_take (i := 0) (v := .func (.func 51) #[] #[]) rfl (by kernel_rfl) (by kernel_rfl) (by kernel_rfl) (fun _ _ _ h => h) (Or.inl ⟨by rfl, fun w' hw' => by (try dsimp only at hw'); go_simp⟩) (by assumption) ?_
              try simp only [Act.put, List.getElem_toArray, List.getElem_cons_succ, List.getElem_cons_zero, List.setIfInBounds_toArray, List.set_cons_zero, List.set_cons_succ]
              refine wpAnyH_take (i := 1) (v := .slice (some ⟨g, 0, none⟩) 3 cp) rfl (by kernel_rfl) (by kernel_rfl) (by kernel_rfl) (fun _ _ _ h => h) (Or.inl ⟨by rfl, fun w' hw' => by (try dsimp only at hw'); go_simp⟩) (by assumption) ?_
              try simp only [Act.put, List.getElem_toArray, List.getElem_cons_succ, List.getElem_cons_zero, List.setIfInBounds_toArray, List.set_cons_zero, List.set_cons_succ]
              refine wpAnyH_take (i := 2) (v := .pointer (some ⟨g, 0, none⟩)) rfl (by kernel_rfl) (by kernel_rfl) (by kernel_rfl) (fun _ _ _ h => h) (Or.inl ⟨by rfl, fun w' hw' => by (try dsimp only at hw'); go_simp⟩) (by assumption) ?_
              try simp only [Act.put, List.getElem_toArray, List.getElem_cons_succ, List.getElem_cons_zero, List.setIfInBounds_toArray, List.set_cons_zero, List.set_cons_succ]
              refine wpAnyH_take (i := 3) (v := .agg #[.int .i64 xk, .int .i64 xn, .string xs, .slice xa xl xc]) rfl (by kernel_rfl) (by kernel_rfl) (by kernel_rfl) (fun _ _ _ h => h) (Or.inl ⟨by rfl, fun w' hw' => by (try dsimp only at hw'); go_simp⟩) (by assumption) ?_
              try simp only [Act.put, List.getElem_toArray, List.getElem_cons_succ, List.getElem_cons_zero, List.setIfInBounds_toArray, List.set_cons_zero, List.set_cons_succ]
              refine wpAnyH_take (i := 4) (v := .slice (some ⟨g, 0, none⟩) 3 cp) rfl (by kernel_rfl) (by kernel_rfl) (by kernel_rfl) (fun _ _ _ h => h) (Or.inl ⟨by rfl, fun w' hw' => by (try dsimp only at hw'); go_simp⟩) (by assumption) ?_
              try simp only [Act.put, List.getElem_toArray, List.getElem_cons_succ, List.getElem_cons_zero, List.setIfInBounds_toArray, List.set_cons_zero, List.set_cons_succ]
              refine wpAnyH_take (i := 5) (v := .pointer (some ⟨g, 4, none⟩)) rfl (by kernel_rfl) (by kernel_rfl) (by kernel_rfl) (fun _ _ _ h => h) (Or.inl ⟨by rfl, fun w' hw' => by (try dsimp only at hw'); go_simp⟩) (by assumption) ?_
              try simp only [Act.put, List.getElem_toArray, List.getElem_cons_succ, List.getElem_cons_zero, List.setIfInBounds_toArray, List.set_cons_zero, List.set_cons_succ]
              refine wpAnyH_take (i := 6) (v := .agg #[.int .i64 yk, .int .i64 yn, .string ys, .slice ya yl yc]) rfl (by kernel_rfl) (by kernel_rfl) (by kernel_rfl) (fun _ _ _ h => h) (Or.inl ⟨by rfl, fun w' hw' => by (try dsimp only at hw'); go_simp⟩) (by assumption) ?_
              try simp only [Act.put, List.getElem_toArray, List.getElem_cons_succ, List.getElem_cons_zero, List.setIfInBounds_toArray, List.set_cons_zero, List.set_cons_succ]
              refine wpAnyH_ready (rs := [7]) (by kernel_rfl) (by simp) ?_
              refine AllReadyH.cons rfl (fun K hK => ?_) AllReadyH.nil
              go_simp
              (go_at_call 51; (with_reducible refine (C1.out _ ?_).mono ?_); (first | exact HX.out | exact HX.out.drew); rintro e W0 ⟨rfl, H0, e0, e1, e2, e3, e4, e5, e6, e7, e8, e9, e10, e11⟩)
              go_wp2_with (fail)
              refine hK.out _ _ ?_ (fun hHeld => ?_)
              · go_keep
              clear hK K
              try simp only [Act.put, List.getElem_toArray, List.getElem_cons_succ, List.getElem_cons_zero, List.setIfInBounds_toArray, List.set_cons_zero, List.set_cons_succ]
              refine wpAnyH_take (i := 8) (v := .bool false) rfl (by kernel_rfl) (by kernel_rfl) (by kernel_rfl) (fun _ _ _ h => h) (Or.inl ⟨by rfl, fun w' hw' => by (try dsimp only at hw'); go_simp⟩) (by assumption) ?_
              try simp only [Act.put, List.getElem_toArray, List.getElem_cons_succ, List.getElem_cons_zero, List.setIfInBounds_toArray, List.set_cons_zero, List.set_cons_succ]
              refine wpAnyH_take (i := 9) (v := .bool false) rfl (by kernel_rfl) (by kernel_rfl) (by kernel_rfl) (fun _ _ _ h => h) (Or.inl ⟨by rfl, fun w' hw' => by (try dsimp only at hw'); go_simp⟩) (by assumption) ?_
              try simp only [Act.put, List.getElem_toArray, List.getElem_cons_succ, List.getElem_cons_zero, List.setIfInBounds_toArray, List.set_cons_zero, List.set_cons_succ]
              refine wpAnyH_take (i := 10) (v := .func (.func 51) #[] #[]) rfl (by kernel_rfl) (by kernel_rfl) (by kernel_rfl) (fun _ _ _ h => h) (Or.inl ⟨by simp [Region.wanted, yielded], fun w' hw' => by (try dsimp only at hw'); go_simp⟩) (by assumption) ?_
              try simp only [Act.put, List.getElem_toArray, List.getElem_cons_succ, List.getElem_cons_zero, List.setIfInBounds_toArray, List.set_cons_zero, List.set_cons_succ]
              refine wpAnyH_take (i := 11) (v := .slice (some ⟨g, 0, none⟩) 3 cp) rfl (by kernel_rfl) (by kernel_rfl) (by kernel_rfl) (fun _ _ _ h => h) (Or.inl ⟨by simp [Region.wanted, yielded], fun w' hw' => by (try dsimp only at hw'); go_simp⟩) (by assumption) ?_
              try simp only [Act.put, List.getElem_toArray, List.getElem_cons_succ, List.getElem_cons_zero, List.setIfInBounds_toArray, List.set_cons_zero, List.set_cons_succ]
              refine wpAnyH_take (i := 12) (v := .pointer (some ⟨g, 4, none⟩)) rfl (by kernel_rfl) (by kernel_rfl) (by kernel_rfl) (fun _ _ _ h => h) (Or.inl ⟨by simp [Region.wanted, yielded], fun w' hw' => by (try dsimp only at hw'); go_simp⟩) (by assumption) ?_
              try simp only [Act.put, List.getElem_toArray, List.getElem_cons_succ, List.getElem_cons_zero, List.setIfInBounds_toArray, List.set_cons_zero, List.set_cons_succ]
              refine wpAnyH_take (i := 13) (v := .agg #[.int .i64 yk, .int .i64 yn, .string ys, .slice ya yl yc]) rfl (by kernel_rfl) (by kernel_rfl) (by kernel_rfl) (fun _ _ _ h => h) (Or.inl ⟨by simp [Region.wanted, yielded], fun w' hw' => by (try dsimp only at hw'); go_simp⟩) (by assumption) ?_
              try simp only [Act.put, List.getElem_toArray, List.getElem_cons_succ, List.getElem_cons_zero, List.setIfInBounds_toArray, List.set_cons_zero, List.set_cons_succ]
              refine wpAnyH_take (i := 14) (v := .slice (some ⟨g, 0, none⟩) 3 cp) rfl (by kernel_rfl) (by kernel_rfl) (by kernel_rfl) (fun _ _ _ h => h) (Or.inl ⟨by simp [Region.wanted, yielded], fun w' hw' => by (try dsimp only at hw'); go_simp⟩) (by assumption) ?_
              try simp only [Act.put, List.getElem_toArray, List.getElem_cons_succ, List.getElem_cons_zero, List.setIfInBounds_toArray, List.set_cons_zero, List.set_cons_succ]
              refine wpAnyH_take (i := 15) (v := .pointer (some ⟨g, 8, none⟩)) rfl (by kernel_rfl) (by kernel_rfl) (by kernel_rfl) (fun _ _ _ h => h) (Or.inl ⟨by simp [Region.wanted, yielded], fun w' hw' => by (try dsimp only at hw'); go_simp⟩) (by assumption) ?_
              try simp only [Act.put, List.getElem_toArray, List.getElem_cons_succ, List.getElem_cons_zero, List.setIfInBounds_toArray, List.set_cons_zero, List.set_cons_succ]
              refine wpAnyH_take (i := 16) (v := .agg #[.int .i64 zk, .int .i64 zn, .string zs, .slice za zl zc]) rfl (by kernel_rfl) (by kernel_rfl) (by kernel_rfl) (fun _ _ _ h => h) (Or.inl ⟨by simp [Region.wanted, yielded], fun w' hw' => by (try dsimp only at hw'); go_simp⟩) (by assumption) ?_
              try simp only [Act.put, List.getElem_toArray, List.getElem_cons_succ, List.getElem_cons_zero, List.setIfInBounds_toArray, List.set_cons_zero, List.set_cons_succ]
              refine wpAnyH_ready (rs := [17]) (by kernel_rfl) (by simp) ?_
              refine AllReadyH.cons rfl (fun K hK => ?_) AllReadyH.nil
              go_simp
              (go_at_call 51; (with_reducible refine (C2.out _ ?_).mono ?_); (first | exact H0.out | exact H0.out.drew); rintro e W1 ⟨rfl, H1, e0, e1, e2, e3, e4, e5, e6, e7, e8, e9, e10, e11⟩)
              go_wp2_with (fail)
              refine hK.out _ _ ?_ (fun hHeld => ?_)
              · go_keep
              clear hK K
              try simp only [Act.put, List.getElem_toArray, List.getElem_cons_succ, List.getElem_cons_zero, List.setIfInBounds_toArray, List.set_cons_zero, List.set_cons_succ]
              refine wpAnyH_take (i := 18) (v := .bool false) rfl (by kernel_rfl) (by kernel_rfl) (by kernel_rfl) (fun _ _ _ h => h) (Or.inl ⟨by simp [Region.wanted, yielded], fun w' hw' => by (try dsimp only at hw'); go_simp⟩) (by assumption) ?_
              try simp only [Act.put, List.getElem_toArray, List.getElem_cons_succ, List.getElem_cons_zero, List.setIfInBounds_toArray, List.set_cons_zero, List.set_cons_succ]
              refine wpAnyH_take (i := 19) (v := .bool false) rfl (by kernel_rfl) (by kernel_rfl) (by kernel_rfl) (fun _ _ _ h => h) (Or.inl ⟨by rfl, fun w' hw' => by (try dsimp only at hw'); go_simp⟩) (by assumption) ?_
              try simp only [Act.put, List.getElem_toArray, List.getElem_cons_succ, List.getElem_cons_zero, List.setIfInBounds_toArray, List.set_cons_zero, List.set_cons_succ]
              refine wpAnyH_take (i := 20) (v := .bool false) rfl (by kernel_rfl) (by kernel_rfl) (by kernel_rfl) (fun _ _ _ h => h) (Or.inl ⟨by rfl, fun w' hw' => by (try dsimp only at hw'); go_simp⟩) (by assumption) ?_
              try simp only [Act.put, List.getElem_toArray, List.getElem_cons_succ, List.getElem_cons_zero, List.setIfInBounds_toArray, List.set_cons_zero, List.set_cons_succ]
              refine wpAnyH_take (i := 21) (v := .func (.func 51) #[] #[]) rfl (by kernel_rfl) (by kernel_rfl) (by kernel_rfl) (fun _ _ _ h => h) (Or.inl ⟨by simp [Region.wanted, yielded], fun w' hw' => by (try dsimp only at hw'); go_simp⟩) (by assumption) ?_
              try simp only [Act.put, List.getElem_toArray, List.getElem_cons_succ, List.getElem_cons_zero, List.setIfInBounds_toArray, List.set_cons_zero, List.set_cons_succ]
              refine wpAnyH_take (i := 22) (v := .slice (some ⟨g, 0, none⟩) 3 cp) rfl (by kernel_rfl) (by kernel_rfl) (by kernel_rfl) (fun _ _ _ h => h) (Or.inl ⟨by simp [Region.wanted, yielded], fun w' hw' => by (try dsimp only at hw'); go_simp⟩) (by assumption) ?_
              try simp only [Act.put, List.getElem_toArray, List.getElem_cons_succ, List.getElem_cons_zero, List.setIfInBounds_toArray, List.set_cons_zero, List.set_cons_succ]
              refine wpAnyH_take (i := 23) (v := .pointer (some ⟨g, 0, none⟩)) rfl (by kernel_rfl) (by kernel_rfl) (by kernel_rfl) (fun _ _ _ h => h) (Or.inl ⟨by simp [Region.wanted, yielded], fun w' hw' => by (try dsimp only at hw'); go_simp⟩) (by assumption) ?_
              try simp only [Act.put, List.getElem_toArray, List.getElem_cons_succ, List.getElem_cons_zero, List.setIfInBounds_toArray, List.set_cons_zero, List.set_cons_succ]
              refine wpAnyH_take (i := 24) (v := .agg #[.int .i64 xk, .int .i64 xn, .string xs, .slice xa xl xc]) rfl (by kernel_rfl) (by kernel_rfl) (by kernel_rfl) (fun _ _ _ h => h) (Or.inl ⟨by simp [Region.wanted, yielded], fun w' hw' => by (try dsimp only at hw'); go_simp⟩) (by assumption) ?_
              try simp only [Act.put, List.getElem_toArray, List.getElem_cons_succ, List.getElem_cons_zero, List.setIfInBounds_toArray, List.set_cons_zero, List.set_cons_succ]
              refine wpAnyH_take (i := 25) (v := .slice (some ⟨g, 0, none⟩) 3 cp) rfl (by kernel_rfl) (by kernel_rfl) (by kernel_rfl) (fun _ _ _ h => h) (Or.inl ⟨by simp [Region.wanted, yielded], fun w' hw' => by (try dsimp only at hw'); go_simp⟩) (by assumption) ?_
              try simp only [Act.put, List.getElem_toArray, List.getElem_cons_succ, List.getElem_cons_zero, List.setIfInBounds_toArray, List.set_cons_zero, List.set_cons_succ]
              refine wpAnyH_take (i := 26) (v := .pointer (some ⟨g, 8, none⟩)) rfl (by kernel_rfl) (by kernel_rfl) (by kernel_rfl) (fun _ _ _ h => h) (Or.inl ⟨by simp [Region.wanted, yielded], fun w' hw' => by (try dsimp only at hw'); go_simp⟩) (by assumption) ?_
              try simp only [Act.put, List.getElem_toArray, List.getElem_cons_succ, List.getElem_cons_zero, List.setIfInBounds_toArray, List.set_cons_zero, List.set_cons_succ]
              refine wpAnyH_take (i := 27) (v := .agg #[.int .i64 zk, .int .i64 zn, .string zs, .slice za zl zc]) rfl (by kernel_rfl) (by kernel_rfl) (by kernel_rfl) (fun _ _ _ h => h) (Or.inl ⟨by simp [Region.wanted, yielded], fun w' hw' => by (try dsimp only at hw'); go_simp⟩) (by assumption) ?_
              try simp only [Act.put, List.getElem_toArray, List.getElem_cons_succ, List.getElem_cons_zero, List.setIfInBounds_toArray, List.set_cons_zero, List.set_cons_succ]
              refine wpAnyH_ready (rs := [28]) (by kernel_rfl) (by simp) ?_
              refine AllReadyH.cons rfl (fun K hK => ?_) AllReadyH.nil
              go_simp
              (go_at_call 51; (with_reducible refine (C3.out _ ?_).mono ?_); (first | exact H1.out | exact H1.out.drew); rintro e W2 ⟨rfl, H2, e0, e1, e2, e3, e4, e5, e6, e7, e8, e9, e10, e11⟩)
              go_wp2_with (fail)
              refine hK.out _ _ ?_ (fun hHeld => ?_)
              · go_keep
              clear hK K
              try simp only [Act.put, List.getElem_toArray, List.getElem_cons_succ, List.getElem_cons_zero, List.setIfInBounds_toArray, List.set_cons_zero, List.set_cons_succ]
              refine wpAnyH_take (i := 29) (v := .bool true) rfl (by kernel_rfl) (by kernel_rfl) (by kernel_rfl) (fun _ _ _ h => h) (Or.inl ⟨by rfl, fun w' hw' => by (try dsimp only at hw'); go_simp⟩) (by assumption) ?_
              try simp only [Act.put, List.getElem_toArray, List.getElem_cons_succ, List.getElem_cons_zero, List.setIfInBounds_toArray, List.set_cons_zero, List.set_cons_succ]
              refine wpAnyH_take (i := 30) (v := .bool true) rfl (by kernel_rfl) (by kernel_rfl) (by kernel_rfl) (fun _ _ _ h => h) (Or.inl ⟨by rfl, fun w' hw' => by (try dsimp only at hw'); go_simp⟩) (by assumption) ?_
              try simp only [Act.put, List.getElem_toArray, List.getElem_cons_succ, List.getElem_cons_zero, List.setIfInBounds_toArray, List.set_cons_zero, List.set_cons_succ]
              refine wpAnyH_ready (rs := [31]) (by kernel_rfl) (by simp) ?_
              refine AllReadyH.cons rfl (fun K hK => ?_) AllReadyH.nil
              go_simp
              (go_at_call 15; refine (HV.out _ (HB0.out.trans (H2.out.mono HB0.out.size))).mono ?_; rintro e Wz ⟨rfl, Hz'⟩; have Hz := Lib.hid ((HB0.out.trans (H2.out.mono HB0.out.size)).trans (Hz'.mono (HB0.out.trans (H2.out.mono HB0.out.size)).size)); have HS3z := HS3.out Wz (H2.out.trans (Hz'.mono H2.out.size)); obtain ⟨e0, e1, e2, e3, e4, e5, e6, e7, e8, e9, e10, e11⟩ := HS3z)
              go_wp2_with (fail)
              refine hK.out _ _ ?_ (fun hHeld => ?_)
              · go_keep
              clear hK K
              try simp only [Act.put, List.getElem_toArray, List.getElem_cons_succ, List.getElem_cons_zero, List.setIfInBounds_toArray, List.set_cons_zero, List.set_cons_succ]
              refine wpAnyH_take (i := 32) (v := .bool true) rfl (by kernel_rfl) (by kernel_rfl) (by kernel_rfl) (fun _ _ _ h => h) (Or.inl ⟨by rfl, fun w' hw' => by (try dsimp only at hw'); go_simp⟩) (by assumption) ?_
              try simp only [Act.put, List.getElem_toArray, List.getElem_cons_succ, List.getElem_cons_zero, List.setIfInBounds_toArray, List.set_cons_zero, List.set_cons_succ]
              refine wpAnyH_take (i := 33) (v := .bool true) rfl (by kernel_rfl) (by kernel_rfl) (by kernel_rfl) (fun _ _ _ h => h) (Or.inl ⟨by rfl, fun w' hw' => by (try dsimp only at hw'); go_simp⟩) (by assumption) ?_
              try simp only [Act.put, List.getElem_toArray, List.getElem_cons_succ, List.getElem_cons_zero, List.setIfInBounds_toArray, List.set_cons_zero, List.set_cons_succ]
              refine wpAnyH_done (by kernel_rfl) ?_ _
              go_wp2_with (fail)
              go_ret
              exact ⟨rfl, Hz.out⟩
end Go.Proofs.YtlbnfokedkpccaaGreat
