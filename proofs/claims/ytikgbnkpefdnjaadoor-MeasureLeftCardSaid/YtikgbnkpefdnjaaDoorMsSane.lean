/- The law's fixed example. -/
import Derived.Test.YtikgbnkpefdnjaaDoorMsTry
import Derived.KernelRfl
namespace Go.Proofs.YtikgbnkpefdnjaaDoor
open Go.RowKit Go.PlainAid

theorem sane_value : evalM ⟨#[49, 105, 43, 50, 112, 42, 51]⟩ 117 0 0 0 = .ok 2220 := by kernel_rfl
end Go.Proofs.YtikgbnkpefdnjaaDoor
