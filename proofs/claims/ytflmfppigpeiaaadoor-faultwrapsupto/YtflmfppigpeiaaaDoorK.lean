/- The texts of the numbers 10 and 11; Depth; Place. -/
import Derived.Test.YtflmfppigpeiaaaDoorD
namespace Go.Proofs.YtflmfppigpeiaaaDoor
open Go.RowKit

set_option maxRecDepth 100000 in
theorem itoa10 (w : World) : Calls Tryd.prog 52 #[.int .i64 10] w fun e w' => e = .returned (.string ⟨#[49, 48]⟩) ∧ w = w' := by
  go_enter Tryd.func52, Tryd.ntmps52
  go_wp2
  go_ret
  exact ⟨rfl, rfl⟩

set_option maxRecDepth 100000 in
theorem itoa11 (w : World) : Calls Tryd.prog 52 #[.int .i64 11] w fun e w' => e = .returned (.string ⟨#[49, 49]⟩) ∧ w = w' := by
  go_enter Tryd.func52, Tryd.ntmps52
  go_wp2
  go_ret
  exact ⟨rfl, rfl⟩

/-- "regency: error " and the two digits. -/
def errText (d : UInt8) : ByteArray := ⟨#[114, 101, 103, 101, 110, 99, 121, 58, 32, 101, 114, 114, 111, 114, 32, 49, d]⟩

theorem errno10 (w : World) : Calls Tryd.prog 51 #[.int .i64 10] w fun e w' => e = .returned (.string (errText 48)) ∧ w = w' := by
  go_enter Tryd.func51, Tryd.ntmps51
  go_wp2_with (go_at_call 52; refine (itoa10 _).mono ?_; rintro e w' ⟨rfl, rfl⟩)
  go_ret
  exact ⟨rfl, rfl⟩

theorem errno11 (w : World) : Calls Tryd.prog 51 #[.int .i64 11] w fun e w' => e = .returned (.string (errText 49)) ∧ w = w' := by
  go_enter Tryd.func51, Tryd.ntmps51
  go_wp2_with (go_at_call 52; refine (itoa11 _).mono ?_; rintro e w' ⟨rfl, rfl⟩)
  go_ret
  exact ⟨rfl, rfl⟩

def DepthPost (w : World) (n : Nat) (e : Ending) (w' : World) : Prop := e = .returned (.int .i64 n) ∧ Below w.heap.size w w'

theorem own_len {w : World} {base : Nat} {e : TypeId} {s n : Nat} {v : Value} {xs : List Value} (h : w.ownsRow base e s v n xs) : ∃ A c, v = .slice A n c := by
  rcases h.2 with ⟨rfl, hn⟩ | ⟨g, cap, cur, rfl, _⟩
  · exact ⟨none, 0, by rw [hn]⟩
  · exact ⟨_, _, rfl⟩

theorem depth_any {w : World} {ln : Int} {l : List (Nat × Int)} {v : Value} (h : Chn w ln l v) (hl : l.length ≤ 100) : Calls Tryd.prog 10 #[v] w (DepthPost w l.length) := by
  have H21 := Lib.hid (chain_any h hl)
  clear h
  go_enter Tryd.func10, Tryd.ntmps10
  go_wp2_with (go_at_call 21; refine H21.out.mono ?_; rintro e w' ⟨sv, rfl, hown, hb⟩; obtain ⟨A, c, rfl⟩ := own_len hown)
  go_ret
  exact ⟨rfl, hb⟩

theorem place_fault (b : Nat) (s : ByteArray) (w : World) (c0 : w.cell? ⟨b, 0, none⟩ = some (.string s)) :
    Calls Tryd.prog 14 #[.iface 33 (.pointer (some ⟨b, 0, none⟩))] w fun e w' => e = .returned (.string s) ∧ w = w' := by
  go_enter Tryd.func14, Tryd.ntmps14
  go_wp2_with (go_at_call 23; refine (asFault_some _ _).mono ?_; rintro e w' ⟨rfl, rfl⟩)
  go_ret
  exact ⟨rfl, rfl⟩
end Go.Proofs.YtflmfppigpeiaaaDoor
