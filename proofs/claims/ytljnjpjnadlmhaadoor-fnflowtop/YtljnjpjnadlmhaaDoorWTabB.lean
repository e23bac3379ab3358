/- The library's table, as the rows of this seat list it. -/
import Derived.Test.YtljnjpjnadlmhaaDoorPartWForest
import Derived.Test.YtljnjpjnadlmhaaDoorPartWPick
import Derived.Test.YtljnjpjnadlmhaaDoorCards
import Derived.Test.YtljnjpjnadlmhaaDoorTie
import Derived.Deep.DeepHandedRow
import Derived.Lib.LaidTab
namespace Go.Proofs.YtljnjpjnadlmhaaDoor
open Go.ChangeShapes Go.WideShapes Go.ChangeAt Go.RowKit
set_option linter.unusedVariables false

theorem gTab : Tryd.prog.globalNamed "math/bits.deBruijn64tab" = some 0 := by kernel_rfl
theorem gTabType : (Tryd.prog.globals[0]?).map (·.type) = some 111 := by kernel_rfl
theorem cellsTab : Tryd.prog.cellsOf 111 = 64 := by kernel_rfl
theorem tab_of {W : World} (h : laidMetH Tryd.prog [("math/bits.deBruijn64tab", Rows.laid_math_bits_deBruijn64tab)] W) : Tab W := by
  have t : Lib.TabIs Tryd.prog W "math/bits.deBruijn64tab" .u8 dbT :=
    Lib.tabIs_of_head (rest := []) gTab gTabType Tryd.underlying111 Tryd.underlying5 Tryd.cellsByte cellsTab h
  have c := fun i hi => t.cell gTab i hi
  exact ⟨fun i hi => c i (by show i < 64; exact hi), cell_ltB (c 0 (by decide))⟩

/-- a world for the witness: the settled one, the table holding what its initialiser lays -/
noncomputable def laidWorld (os : Os) : World :=
  { World.holding Tryd.prog os ⟨#[], #[], []⟩ with heap := (World.holding Tryd.prog os ⟨#[], #[], []⟩).heap.modify 0 fun
      | .cells _ t frozen => .cells (dbT.map fun z => Value.int .u8 z).toArray t frozen
      | o => o }

end Go.Proofs.YtljnjpjnadlmhaaDoor
