/- Values made of numbers: ValueOf at every type of at most three within one another. -/
import Derived.Test.YtlbnfokedkpccaaGreatOrdh
set_option linter.all false
namespace Go.Proofs.YtlbnfokedkpccaaGreat
open Go.RowKit Go.Shelf
attribute [local go_sem] Oper.semAt_some

/-- A type of which ValueOf makes values, so many within one another. -/
inductive TT.fit : Nat → TT → Prop
  | int (d : Nat) (a : Option Addr) (cap : Nat) : TT.fit (d + 1) (.mk 0 a 0 cap [])
  | text (d : Nat) (a : Option Addr) (cap : Nat) : TT.fit (d + 1) (.mk 1 a 0 cap [])
  | tuple (d : Nat) (a : Option Addr) (len cap : Nat) (l : List TT) (h : 1 ≤ l.length) (h3 : l.length ≤ 3) (hk : ∀ c ∈ l, TT.fit d c) : TT.fit (d + 1) (.mk 2 a len cap l)
  | sum (d : Nat) (a : Option Addr) (len cap : Nat) (l : List TT) (h : 1 ≤ l.length) (h3 : l.length ≤ 3) (hk : ∀ c ∈ l, TT.fit d c) : TT.fit (d + 1) (.mk 3 a len cap l)

theorem ValueOf_any (n₀ : Nat) (a : Option Addr) (len cap : Nat) (l : List Int) : ∀ (d : Nat) (T : TT), T.fit d → ∀ (S : Nat → Prop) (q : Nat) (w : World), IsInts n₀ w a len l → n₀ ≤ w.heap.size → (∀ b, S b → b < w.heap.size) → IsTT S w T →
    Calls Tryz.prog 50 #[.agg #[.int .i64 T.k, T.row], streamV a len cap q] w (VofR d a len cap w) := by
  intro d
  induction d with
  | zero => intro T h; cases h
  | succ d ih =>
    intro T hT S q w hl hn hS hTT
    have kid : ∀ c : TT, c.fit d → IsTT S w c → ∀ (q : Nat) (W : World), Below w.heap.size w W → Calls Tryz.prog 50 #[.agg #[.int .i64 c.k, c.row], streamV a len cap q] W (VofR d a len cap W) := fun c hc hI q W hW =>
      ih c hc S q W (hl.bel (hW.mono hn)) (by have := hW.size; omega) (fun b hb => by have := hS b hb; have := hW.size; omega) (hI.kept (fun b hb => hb) (fun b hb hl => hW.block b hl))
    cases hT with
    | int _ ta tc => exact Vof_int d n₀ ta 0 tc a len cap l q w hl hn
    | text _ ta tc => exact Vof_text d n₀ ta 0 tc a len cap l q w hl hn
    | tuple _ ta tl tc kids h1 h3 hk =>
      have hkT : ∀ c ∈ kids, IsTT S w c := by cases hTT with | mk _ _ _ _ _ _ _ _ hk => exact hk
      exact ValueOf_tuple n₀ a len cap l d S ta tl tc kids q w hl hn h1 h3 hS hTT (fun c hc q W hW => kid c (hk c hc) (hkT c hc) q W hW)
    | sum _ ta tl tc kids h1 h3 hk =>
      have hkT : ∀ c ∈ kids, IsTT S w c := by cases hTT with | mk _ _ _ _ _ _ _ _ hk => exact hk
      exact ValueOf_sum n₀ a len cap l d S ta tl tc kids q w hl hn h1 h3 hS hTT (fun c hc q W hW => kid c (hk c hc) (hkT c hc) q W hW)
end Go.Proofs.YtlbnfokedkpccaaGreat
