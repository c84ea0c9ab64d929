/-
  The text that must be read: plain mathematics.
-/
import Derived.Test.YtdkboifpdodonaaDoorBack2
namespace PureCnf

def sampleT : List UInt8 := [112, 32, 99, 110, 102, 32, 50, 32, 50, 10, 49, 32, 45, 50, 32, 48, 32, 50, 32, 48, 10]
def sampleL : List (List (List UInt8)) := [[[112], [99, 110, 102], [50], [50]], [[49], [45, 50], [48], [50], [48]]]
theorem sample_good : ∀ ws ∈ sampleL, goodL ws := by
  intro ws hws
  have good : ∀ w ∈ ws, w ≠ [] ∧ w.all (fun c => inkB c && lineB c) = true := by
    simp only [sampleL, List.mem_cons, List.not_mem_nil, or_false] at hws
    rcases hws with rfl | rfl <;> decide
  refine ⟨?_, fun w hw => ⟨(good w hw).1, fun c hc => ?_⟩, ?_⟩
  · simp only [sampleL, List.mem_cons, List.not_mem_nil, or_false] at hws
    rcases hws with rfl | rfl <;> decide
  · have := List.all_eq_true.1 (good w hw).2 c hc
    simpa using this
  · simp only [sampleL, List.mem_cons, List.not_mem_nil, or_false] at hws
    rcases hws with rfl | rfl
    · intro w hw; simp at hw; subst hw; decide
    · intro w hw; simp at hw; subst hw; decide
theorem sample_parse : parseN sampleT = .ok (2, [2, 3], [1, -2, 2]) := by
  have hp : piecesFrom sampleT 0 0 = pieceAll sampleL 0 0 := by
    have := pieces_all sampleL [] 0 sample_good
    exact this
  unfold parseN
  rw [if_neg (by decide), hp]
  rfl
end PureCnf
