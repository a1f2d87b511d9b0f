/- The two functions by which levels are picked. -/
import Derived.Test.YtpokdihnimlgkaaGreatDoorLa
namespace Go.Proofs.YtpokdihnimlgkaaGreatDoor
open Go.RowKit

def pickHi (x y : Int) : Int := max x y
def pickLo (x y : Int) : Int := min x y

theorem max_any (x y : Int) (w : World) : Calls Tryz.prog 49 #[.int .i64 x, .int .i64 y] w fun e w' => e = .returned (.int .i64 (pickHi x y)) ∧ w = w' := by
  go_enter Tryz.func49, Tryz.ntmps49
  go_wp2_with fail
  go_ret
  exact ⟨rfl, rfl⟩
theorem min_any (x y : Int) (w : World) : Calls Tryz.prog 50 #[.int .i64 x, .int .i64 y] w fun e w' => e = .returned (.int .i64 (pickLo x y)) ∧ w = w' := by
  go_enter Tryz.func50, Tryz.ntmps50
  go_wp2_with fail
  go_ret
  exact ⟨rfl, rfl⟩

/-- What Join or Meet says of two labels. -/
def MixOut (pick : Int → Int → Int) (a b : List Ent) (m : List Ent) (n : Int) : Prop :=
  (¬ (RightL a ∧ RightL b) ∧ m = [] ∧ n = 21) ∨ (RightL a ∧ RightL b ∧ MakeOut (picked pick a b) m n)
theorem MixOut.uniq {pick : Int → Int → Int} {a b m m' : List Ent} {n n' : Int} (h : MixOut pick a b m n) (h' : MixOut pick a b m' n') : m = m' ∧ n = n' := by
  rcases h with ⟨h1, rfl, rfl⟩ | ⟨h1, h2, h3⟩
  · rcases h' with ⟨_, rfl, rfl⟩ | ⟨h4, h5, _⟩
    · exact ⟨rfl, rfl⟩
    · exact absurd ⟨h4, h5⟩ h1
  · rcases h' with ⟨h4, _⟩ | ⟨_, _, h6⟩
    · exact absurd ⟨h1, h2⟩ h4
    · exact h3.uniq h6
end Go.Proofs.YtpokdihnimlgkaaGreatDoor
