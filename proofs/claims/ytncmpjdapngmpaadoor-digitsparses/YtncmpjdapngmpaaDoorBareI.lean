/- What bare answers at an error, as it is told. -/
import Derived.Test.YtncmpjdapngmpaaDoorDigs2
import Derived.Test.YtncmpjdapngmpaaDoorBare
namespace Go.Proofs.YtncmpjdapngmpaaDoor.digs
open Go.RowKit
open mem errs
theorem bareI (e : Int) (w : World) (hg : Laid w) : Calls Tryd.prog 11 #[errI e, .int .i64 e] w fun ev w' => ev = .returned (.bool true) ∧ Gb w w' := by
  unfold errI
  split
  · rename_i h
    subst h
    refine (bare_nil 0 w).mono ?_
    rintro e' w' ⟨rfl, rfl⟩
    exact ⟨rfl, Gb.refl _⟩
  · refine (bare_errno e e w hg).mono ?_
    rintro e' w' ⟨rfl, g⟩
    exact ⟨by simp, g⟩
end Go.Proofs.YtncmpjdapngmpaaDoor.digs
