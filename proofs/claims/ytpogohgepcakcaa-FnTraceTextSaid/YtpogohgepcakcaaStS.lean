/- Which variable a statement sets: the program and the model return the same. -/
import Derived.Test.YtpogohgepcakcaaStR
namespace Go.Proofs.Ytpogohgepcakcaa
set_option maxRecDepth 100000
open Go.RowKit

theorem sets_no {s : St} (h : s.ok = false) : s.sets = -1 := by simp [St.sets, h]
end Go.Proofs.Ytpogohgepcakcaa
