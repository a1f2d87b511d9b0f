/- The law's own helper 'first' answers true, wherever errors.errorType holds the type of error; only new memory is written. -/
import Derived.Test.YtflmfppigpeiaaaDoorJ
import Derived.Test.YtflmfppigpeiaaaDoorL
namespace Go.Proofs.YtflmfppigpeiaaaDoor
open Go.RowKit

/-- The two faults that 'first' makes lie in blocks B and B + 1, and errors.errorType holds the type of error. -/
def AB (B : Nat) (W : World) : Prop :=
  W.cell? ⟨B, 0, none⟩ = some (.string ⟨#[97]⟩) ∧ W.cell? ⟨B, 1, none⟩ = some (.int .i64 11) ∧ W.cell? ⟨B, 2, none⟩ = some .nilIface ∧
  W.cell? ⟨B + 1, 0, none⟩ = some (.string ⟨#[98]⟩) ∧ W.cell? ⟨B + 1, 1, none⟩ = some (.int .i64 10) ∧ W.cell? ⟨B + 1, 2, none⟩ = some (.iface 33 (.pointer (some ⟨B, 0, none⟩))) ∧
  W.cell? ⟨0, 0, none⟩ = some (.iface 75 (.agg #[.pointer (some ⟨5, 25, none⟩)]))

theorem cell_on {W W' : World} {p : Addr} {v : Value} (h : W.cell? p = some v) (hb : Below W.heap.size W W') : W'.cell? p = some v :=
  (hb.cell (World.block_lt_of_cell? W p h)).trans h

theorem AB.keep {B : Nat} {W W' : World} (h : AB B W) (hb : Below W.heap.size W W') : AB B W' := by
  obtain ⟨h1, h2, h3, h4, h5, h6, h7⟩ := h
  exact ⟨cell_on h1 hb, cell_on h2 hb, cell_on h3 hb, cell_on h4 hb, cell_on h5 hb, cell_on h6 hb, cell_on h7 hb⟩

theorem AB.chn {B : Nat} {W : World} (h : AB B W) : Chn W 0 [(B + 1, 10), (B, 11)] (.iface 33 (.pointer (some ⟨B + 1, 0, none⟩))) := by
  obtain ⟨_, h2, h3, _, h5, h6, _⟩ := h
  exact ⟨rfl, h5, _, h6, rfl, h2, _, h3, rfl⟩

def abTexts : List ByteArray := [⟨#[98]⟩ ++ ⟨#[58, 32]⟩ ++ errText 48, ⟨#[97]⟩ ++ ⟨#[58, 32]⟩ ++ errText 49]

def abWhole : Array UInt8 := #[98, 58, 32, 114, 101, 103, 101, 110, 99, 121, 58, 32, 101, 114, 114, 111, 114, 32, 49, 48, 32, 60, 32, 97, 58, 32, 114, 101, 103, 101, 110, 99, 121, 58, 32, 101, 114, 114, 111, 114, 32, 49, 49]

theorem ab_join : (Lib.join (abTexts.map (·.data.toList)) [32, 60, 32]).toArray = abWhole := by decide

theorem error_AB {B : Nat} {W : World} (h : AB B W) : Calls Tryd.prog 66 #[.pointer (some ⟨B + 1, 0, none⟩)] W fun e w' => e = .returned (.string ⟨abWhole⟩) ∧ Below W.heap.size W w' := by
  have c := error_chain (ts := abTexts) h.chn (by simp) rfl (by decide) ?_
  · refine c.mono fun e w' ⟨he, hb⟩ => ⟨?_, hb⟩
    rw [he, ab_join]
  · obtain ⟨h1, h2, _, h4, h5, _, _⟩ := h
    intro k b n x hk hx
    match k, hk, hx with
    | 0, hk, hx =>
      simp [abTexts] at hk hx
      obtain ⟨rfl, rfl⟩ := hk
      subst hx
      exact ⟨_, _, h4, h5, by decide, by decide, errno10, rfl⟩
    | 1, hk, hx =>
      simp [abTexts] at hk hx
      obtain ⟨rfl, rfl⟩ := hk
      subst hx
      exact ⟨_, _, h1, h2, by decide, by decide, errno11, rfl⟩

theorem Tryd.methodError (v : Value) (w : World) : (Go.method 243 33 v "Error").run Tryd.prog w = .ok (66, v) w := by kernel_rfl

theorem AB.new {w : World} (hg : w.cell? ⟨0, 0, none⟩ = some (.iface 75 (.agg #[.pointer (some ⟨5, 25, none⟩)]))) :
    AB w.heap.size ((w.alloc (.cells #[.string ⟨#[97]⟩, .int .i64 11, .nilIface] 55)).alloc (.cells #[.string ⟨#[98]⟩, .int .i64 10, .iface 33 (.pointer (some ⟨w.heap.size, 0, none⟩))] 55)) := by
  have hl := World.block_lt_of_cell? w _ hg
  refine ⟨by simp, by simp, by simp, by simp, by simp, by simp, ?_⟩
  rw [World.cell?_alloc_lt _ _ ⟨0, 0, none⟩ (by simp), World.cell?_alloc_lt _ _ ⟨0, 0, none⟩ hl]
  exact hg

theorem code_AB {B : Nat} {W : World} (h : AB B W) : Calls Tryd.prog 9 #[.iface 33 (.pointer (some ⟨B + 1, 0, none⟩))] W fun e w' => e = .returned (.int .i64 10) ∧ Below W.heap.size W w' := by
  obtain ⟨_, _, _, _, h5, h6, h7⟩ := h
  exact code_fault (B + 1) 10 _ _ W h5 h6 h7

theorem has_AB {B : Nat} {W : World} (h : AB B W) (e : Int) (r : Bool) (hr : hasB [10, 11] 0 e = r) : Calls Tryd.prog 15 #[.iface 33 (.pointer (some ⟨B + 1, 0, none⟩)), .int .i64 e] W fun e w' => e = .returned (.bool r) ∧ Below W.heap.size W w' := by
  subst hr
  exact has_any h.chn (by simp)

theorem depth_AB {B : Nat} {W : World} (h : AB B W) : Calls Tryd.prog 10 #[.iface 33 (.pointer (some ⟨B + 1, 0, none⟩))] W fun e w' => e = .returned (.int .i64 2) ∧ Below W.heap.size W w' :=
  depth_any h.chn (by simp)

theorem place_AB {B : Nat} {W : World} (h : AB B W) : Calls Tryd.prog 14 #[.iface 33 (.pointer (some ⟨B, 0, none⟩))] W fun e w' => e = .returned (.string ⟨#[97]⟩) ∧ W = w' :=
  place_fault B _ W h.1

def FirstPost (w : World) (e : Ending) (w' : World) : Prop := e = .returned (.bool true) ∧ Below w.heap.size w w'

set_option maxRecDepth 100000 in
set_option maxHeartbeats 1000000 in
theorem first_true {w : World} (hg : w.cell? ⟨0, 0, none⟩ = some (.iface 75 (.agg #[.pointer (some ⟨5, 25, none⟩)]))) : Calls Tryd.prog 6 #[] w (FirstPost w) := by
  have hab := Lib.hid (AB.new hg)
  have hb0 : Below w.heap.size w ((w.alloc (.cells #[.string ⟨#[97]⟩, .int .i64 11, .nilIface] 55)).alloc (.cells #[.string ⟨#[98]⟩, .int .i64 10, .iface 33 (.pointer (some ⟨w.heap.size, 0, none⟩))] 55)) :=
    ((Below.refl _ _).alloc (Nat.le_refl _) _).alloc (by simp) _
  have HB0 := Lib.hid hb0
  clear hg hb0
  have mE := Tryd.methodError
  go_enter Tryd.func6, Tryd.ntmps6
  go_wp2_with fail
  refine (new_new _ _ _ rfl).mono ?_
  rintro e w' ⟨rfl, rfl⟩
  go_wp2_with fail
  refine (wrap_new1 _ _ _ _ _ rfl).mono ?_
  rintro e w' ⟨rfl, rfl⟩
  go_wp2_with fail
  refine (error_AB hab.out).mono ?_
  rintro e w2 ⟨rfl, hb2⟩
  have A2 := Lib.hid (hab.out.keep hb2)
  have B2 := Lib.hid (HB0.out.trans (hb2.mono HB0.out.size))
  clear hab HB0 hb2
  unfold abWhole
  go_wp2_with fail
  refine (code_AB A2.out).mono ?_
  rintro e w3 ⟨rfl, hb3⟩
  have A3 := Lib.hid (A2.out.keep hb3)
  have B3 := Lib.hid (B2.out.trans (hb3.mono B2.out.size))
  clear A2 B2 hb3
  go_wp2_with fail
  refine (has_AB A3.out 11 true rfl).mono ?_
  rintro e w4 ⟨rfl, hb4⟩
  have A4 := Lib.hid (A3.out.keep hb4)
  have B4 := Lib.hid (B3.out.trans (hb4.mono B3.out.size))
  clear A3 B3 hb4
  go_wp2_with fail
  refine (has_AB A4.out 12 false rfl).mono ?_
  rintro e w5 ⟨rfl, hb5⟩
  have A5 := Lib.hid (A4.out.keep hb5)
  have B5 := Lib.hid (B4.out.trans (hb5.mono B4.out.size))
  clear A4 B4 hb5
  go_wp2_with fail
  refine (depth_AB A5.out).mono ?_
  rintro e w6 ⟨rfl, hb6⟩
  have A6 := Lib.hid (A5.out.keep hb6)
  have B6 := Lib.hid (B5.out.trans (hb6.mono B5.out.size))
  clear A5 B5 hb6
  go_wp2_with fail
  refine (place_AB A6.out).mono ?_
  rintro e w7 ⟨rfl, rfl⟩
  go_wp2_with fail
  refine (new_ok _ _).mono ?_
  rintro e w8 ⟨rfl, rfl⟩
  go_wp2_with fail
  go_ret
  exact ⟨rfl, B6.out⟩
end Go.Proofs.YtflmfppigpeiaaaDoor
