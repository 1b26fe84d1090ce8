/- Layer 12, plain: what the law's awake asks. -/
import Derived.Test.YtadecjjbpoaooaaVa
import Derived.Test.YtadecjjbpoaooaaVe
import Derived.Test.YtadecjjbpoaooaaVd
import Derived.Test.YtadecjjbpoaooaaUu
namespace Go.Proofs.Ytadecjjbpoaooaa.Tb
open Go.RowKit Go.Maps
set_option linter.unusedVariables false
def tA : ByteArray := ⟨#[97, 98, 32, 99, 100, 32, 101]⟩
def tB : ByteArray := ⟨#[97, 32, 98]⟩
def tC : ByteArray := ⟨#[99]⟩
def tD : ByteArray := ⟨#[97, 98, 32, 99, 100]⟩
def tE : ByteArray := ⟨#[101]⟩
def tF : ByteArray := ⟨#[97, 32, 32, 99]⟩
def tG : ByteArray := ⟨#[98]⟩
def tH : ByteArray := ⟨#[97, 98, 99]⟩
set_option maxRecDepth 100000 in
theorem aw1 : fillE 5 (letsL tA) = 0 := by kernel_rfl
set_option maxRecDepth 100000 in
theorem aw2 : fillL 5 (letsL tA) = [letsL tD, letsL tE] := by kernel_rfl
set_option maxRecDepth 100000 in
theorem aw3 : colsE [3, 0, 4] 20 = 0 := by kernel_rfl
set_option maxRecDepth 100000 in
theorem aw4 : colsL [3, 0, 4] 20 = [(0, 3), (4, 11), (16, 4)] := by kernel_rfl
set_option maxRecDepth 100000 in
theorem aw5 : rowE [(0, 2), (3, 2)] [letsL tB, letsL tC] = 0 := by kernel_rfl
set_option maxRecDepth 100000 in
theorem aw6 : rowL [(0, 2), (3, 2)] [letsL tB, letsL tC] = [letsL tF, letsL tG] := by kernel_rfl
set_option maxRecDepth 100000 in
theorem aw7 : wid (letsL tH) = 3 := by kernel_rfl
end Go.Proofs.Ytadecjjbpoaooaa.Tb
