/- Each function of the program's package num answers as the document's own. -/
import Derived.Test.YtafbenhgpdndeaaNumPg
namespace Go.Proofs.Ytafbenhgpdndeaa
open Go.RowKit

theorem impl : Impl := {
  put := fun n w h => put_any n w h
  size := fun n w h => size_any n w h
  get := fun s a w h => (get_any s a h w).mono fun _ _ ⟨h1, h2⟩ => ⟨h1, h2.below⟩
  row := fun sa len cap l w h hwf ha => row_any sa len cap l w h hwf ha.1
  unrow := fun s a most w h => unrow_any s a most w h }
end Go.Proofs.Ytafbenhgpdndeaa
