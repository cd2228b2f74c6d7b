/- Pieces of code. -/
import Derived.Test.YtooppedofcpfeaaGreatDoorEngZc
set_option linter.all false
namespace Go.Eng

def takeC : Nat → Code → Code
  | 0, _ => .skip
  | n + 1, .seq a b => .seq a (takeC n b)
  | _ + 1, _ => .goto 0
def dropC : Nat → Code → Code
  | 0, c => c
  | n + 1, .seq _ b => dropC n b
  | _ + 1, c => c
def sq1 : Code → Code | .seq a _ => a | c => c
def sq2 : Code → Code | .seq _ b => b | c => c
def bdy : Code → Code | .block _ c => c | .loop c => c | c => c

section
variable [Shift] {p : Par} {Z : Tab} {fuel k n nt : Nat} {c : Code} {s : St} {l : LSt} {ex : Ex}
theorem Post.more {s s2 : St} {s3 : St} {e : Env} {w w1 : World} {E : Exit} {a1 : Act} (hl : Less s s2) (h : Post p e s2.h w nt ex s3 E a1 w1) : Post p e s.h w nt ex s3 E a1 w1 := by
  obtain ⟨e1, h1, h2, h3⟩ := h
  refine ⟨e1, ?_, h2, h3⟩
  have hd : s2.h.D = s.h.D := by funext b; simp only [Heap.D, hl.next, hl.ghost]
  refine ⟨by have := h1.agree; rwa [hd] at this, by rw [← hl.next]; exact h1.le, by rw [← hl.ghost]; exact h1.gho, h1.rel, h1.size, fun r hr hno => h1.keep r hr fun ho => hno ?_, fun r hr => ?_, h1.tape, h1.os, h1.output⟩
  · obtain ⟨b, o, hb, hN, hx⟩ := ho
    exact ⟨b, o, hl.h b o hb, hN, hx⟩
  · rcases h1.own r hr with ho | ho
    · obtain ⟨b, o, hb, hN, hx⟩ := ho
      exact .inl ⟨b, o, hl.h b o hb, hN, hx⟩
    · exact .inr ho
theorem tri_less {s s2 s3 : St} (hl : Less s s2) (h : Tri p n nt c s2 ex s3) : Tri p n nt c s ex s3 := fun e w a hS => wpIn_mono (h e w a (hS.less hl)) fun _ _ _ hp => hp.more hl

theorem tri_takeRun (hZ : TOk Z p) (hG : p.G = 7) (hnt : nt ≤ 2 ^ 30) {s3 : St} : ∀ (m : Nat) (c : Code) (s s1 : St), cOk 7 nt (takeC m c) = true → run Z fuel (calls Z fuel k) ⟨0, nt, false⟩ (takeC m c) s = some (.normal, s1) →
    ∀ s2, Less s1 s2 → Tri p n nt (dropC m c) s2 ex s3 → Tri p n nt c s ex s3
  | 0, c, s, s1, _, h, s2, hl, h2 => by
    simp only [takeC, run, Option.some.injEq, Prod.mk.injEq, true_and] at h
    subst h
    exact tri_less hl h2
  | m + 1, .seq a b, s, s1, hc, h, s2, hl, h2 => by
    simp only [takeC, cOk, Bool.and_eq_true] at hc
    simp only [takeC, run] at h
    cases h1 : run Z fuel (calls Z fuel k) ⟨0, nt, false⟩ a s with
    | none => rw [h1] at h; cases h
    | some res =>
      obtain ⟨ex1, s'⟩ := res
      rw [h1] at h
      cases ex1 with
      | normal => exact tri_seq (tri_run hZ hnt (by rw [hG]; exact hc.1) h1 rfl ⟨fun _ _ h => h, fun _ _ h => h, rfl, rfl, rfl⟩) (tri_takeRun hZ hG hnt m b s' s1 hc.2 h s2 hl h2)
      | exit i => cases h
      | ret => cases h
      | panic v => cases h
  | m + 1, .skip, s, s1, _, h, _, _, _ => by simp [takeC, run] at h
  | m + 1, .region _ _ _, s, s1, _, h, _, _, _ => by simp [takeC, run] at h
  | m + 1, .cond _ _ _, s, s1, _, h, _, _, _ => by simp [takeC, run] at h
  | m + 1, .block _ _, s, s1, _, h, _, _, _ => by simp [takeC, run] at h
  | m + 1, .loop _, s, s1, _, h, _, _, _ => by simp [takeC, run] at h
  | m + 1, .rangeFunc _ _ _ _, s, s1, _, h, _, _, _ => by simp [takeC, run] at h
  | m + 1, .exit _, s, s1, _, h, _, _, _ => by simp [takeC, run] at h
  | m + 1, .scope _, s, s1, _, h, _, _, _ => by simp [takeC, run] at h
  | m + 1, .label _, s, s1, _, h, _, _, _ => by simp [takeC, run] at h
  | m + 1, .goto _, s, s1, _, h, _, _, _ => by simp [takeC, run] at h
  | m + 1, .ret, s, s1, _, h, _, _, _ => by simp [takeC, run] at h
  | m + 1, .refuse _, s, s1, _, h, _, _, _ => by simp [takeC, run] at h
theorem tri_take (hZ : TOk Z p) (hG : p.G = 7) (hnt : nt ≤ 2 ^ 30) (m : Nat) (h : pieceB Z fuel k nt (takeC m c) s .normal l = true) {s3 : St} (h2 : Tri p n nt (dropC m c) l.st ex s3) : Tri p n nt c s ex s3 := by
  simp only [pieceB, Bool.and_eq_true] at h
  obtain ⟨hc, h⟩ := h
  split at h
  · rename_i ex1 s1 hrun
    simp only [Bool.and_eq_true] at h
    obtain ⟨rfl, hx⟩ := sameEx_eq h.1
    exact tri_takeRun hZ hG hnt m c s s1 hc hrun _ (less_of h.2) h2
  · cases h
end
end Go.Eng
