/- The chapter's first examples, reckoned. -/
import Derived.Test.YthojhjimgfbcbaaDoorComp
import Derived.Test.YthojhjimgfbcbaaDoorWords
import Derived.Test.YthojhjimgfbcbaaDoorFold
import Derived.KernelRfl
namespace Go.Proofs.YthojhjimgfbcbaaDoor
theorem ex_words : words ⟨#[32, 97, 32, 32, 98, 99]⟩ = [(1, 2), (4, 6)] := by kernel_rfl
theorem ex_word : (ByteArray.mk #[32, 97, 32, 32, 98, 99]).extract 4 6 = ⟨#[98, 99]⟩ := by kernel_rfl
theorem ex_cells : cells ⟨#[101, 204, 129, 228, 184, 173]⟩ = [(0, 3, 1), (3, 6, 2)] := by kernel_rfl
theorem ex_w1 : wid 97 = 1 := by kernel_rfl
theorem ex_w2 : wid 20013 = 2 := by kernel_rfl
theorem ex_w3 : wid 769 = 0 := by kernel_rfl
theorem ex_compare : compare ⟨#[97, 50]⟩ ⟨#[97, 49, 48]⟩ = -1 := by kernel_rfl
theorem ex_fold : fold ⟨#[32, 32, 195, 132, 32, 32, 66]⟩ = ⟨#[195, 164, 32, 98]⟩ := by kernel_rfl
end Go.Proofs.YthojhjimgfbcbaaDoor
