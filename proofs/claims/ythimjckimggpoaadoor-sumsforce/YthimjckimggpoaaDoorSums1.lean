/- A text's byte, as the program reads it. -/
import Derived.Test.YthimjckimggpoaaDoorRows
import Derived.Test.YthimjckimggpoaaDoorMem
import Derived.Test.YthimjckimggpoaaDoorBit
import Derived.WalkLawsBesides
import Derived.WalkSpells
namespace Go.Proofs.YthimjckimggpoaaDoor.sums
open Go.ChangeShapes Go.WideShapes Go.ChangeAt Go.RowKit
open mem bit

theorem run_byte {P : Program} {t : TypeId} (s : ByteArray) (j : Nat) (J : Int) (hJ : J = j) (hj : j < s.size) (h : P.underlying t = some .string) (w : World) :
    (Instr.index t (.string s) (.int .i64 J)).run P w = .ok (.int .u8 (byteN s j : Nat)) w := by
  subst hJ
  rw [run_index_string _ _ _ _ _ h, byteN_get s j hj]
  simp [hj]
end Go.Proofs.YthimjckimggpoaaDoor.sums
