/- The law's own helper 'made' wraps a number by the links of a slice, the last link first: what it returns is the chain of the links whose number is not OK. -/
import Derived.Test.YtflmfppigpeiaaaDoorD
import Derived.StillTailTactics
namespace Go.Proofs.YtflmfppigpeiaaaDoor
open Go.RowKit

/-- The slice at address A, below block B, holds the links xs: a place and a number each. -/
def Links (w : World) (B : Nat) (A : Option Addr) (xs : List (ByteArray × Int)) : Prop :=
  0 < xs.length → ∃ b o, A = some ⟨b, o, none⟩ ∧ b < B ∧
    ∀ (k : Nat) (s : ByteArray) (n : Int), xs[k]? = some (s, n) → w.cell? ⟨b, o + k * 2, none⟩ = some (.string s) ∧ w.cell? ⟨b, o + k * 2 + 1, none⟩ = some (.int .i64 n)

theorem Links.below {w w' : World} {B : Nat} {A : Option Addr} {xs : List (ByteArray × Int)} (h : Links w B A xs) (hb : Below B w w') : Links w' B A xs := by
  intro hp
  obtain ⟨b, o, rfl, hlt, hc⟩ := h hp
  refine ⟨b, o, rfl, hlt, fun k s n hx => ?_⟩
  obtain ⟨c1, c2⟩ := hc k s n hx
  exact ⟨(hb.cell (p := ⟨b, _, none⟩) hlt).trans c1, (hb.cell (p := ⟨b, _, none⟩) hlt).trans c2⟩

/-- The numbers that are not OK. -/
def keptN (ns : List Int) : List Int := ns.filter fun n => !(n == 0)

def MadeRel (w : World) (ln : Int) (xs : List (ByteArray × Int)) (k : Nat) (v i : Value) (wr : World) : Prop :=
  ∃ l, k ≤ xs.length ∧ i = .int .i64 ((k : Int) - 1) ∧ Chn wr ln l v ∧ l.map (·.2) = keptN ((xs.drop k).map (·.2)) ∧ Below w.heap.size w wr

theorem Chn.push {w : World} {ln n : Int} {s : ByteArray} {l : List (Nat × Int)} {v : Value} (h : Chn w ln l v) :
    Chn (w.alloc (.cells #[.string s, .int .i64 n, v] 55)) ln ((w.heap.size, n) :: l) (.iface 33 (.pointer (some ⟨w.heap.size, 0, none⟩))) :=
  ⟨rfl, by simp, v, by simp, h.below (Nat.le_refl _) ((Below.refl _ _).alloc (Nat.le_refl _) _)⟩

theorem drop_of {xs : List (ByteArray × Int)} {j : Nat} {x : ByteArray × Int} (h : xs[j]? = some x) : xs.drop j = x :: xs.drop (j + 1) := by
  obtain ⟨hj, rfl⟩ := List.getElem?_eq_some_iff.1 h
  exact List.drop_eq_getElem_cons hj

theorem MadeRel.more {xs : List (ByteArray × Int)} {j b : Nat} {s : ByteArray} {n : Int} {l : List (Nat × Int)} (h : xs[j]? = some (s, n)) (hz : (n == 0) = false)
    (hm : l.map (·.2) = keptN ((xs.drop (j + 1)).map (·.2))) : ((b, n) :: l).map (·.2) = keptN ((xs.drop j).map (·.2)) := by
  rw [drop_of h]
  simp [keptN, hz] at hm ⊢
  exact hm

theorem MadeRel.same {xs : List (ByteArray × Int)} {j : Nat} {s : ByteArray} {l : List (Nat × Int)} (h : xs[j]? = some (s, 0))
    (hm : l.map (·.2) = keptN ((xs.drop (j + 1)).map (·.2))) : l.map (·.2) = keptN ((xs.drop j).map (·.2)) := by
  rw [drop_of h]
  simpa [keptN] using hm

def MadePost (w : World) (ln : Int) (xs : List (ByteArray × Int)) (e : Ending) (w' : World) : Prop :=
  ∃ v l, e = .returned v ∧ Chn w' ln l v ∧ l.map (·.2) = keptN (xs.map (·.2)) ∧ Below w.heap.size w w'

set_option maxRecDepth 100000 in
theorem made_any {w : World} {A : Option Addr} {c : Nat} {ln : Int} {xs : List (ByteArray × Int)} (hx : Links w w.heap.size A xs) (hn : xs.length ≤ 50) :
    Calls Tryd.prog 7 #[.slice A xs.length c, .int .i64 ln] w (MadePost w ln xs) := by
  have HX := Lib.hid hx
  clear hx
  cases h0 : (ln == 0)
  all_goals
    have HL : Hid (lastV ln = if (ln == 0) = true then .nilIface else .iface 28 (.int .i64 ln)) := by
      show lastV ln = _
      unfold lastV
      simp
    have h1 : (ln != 0) = !(ln == 0) := rfl
    rw [h0] at h1
    go_enter Tryd.func7, Tryd.ntmps7
    go_wp2_with fail
    go_loopg [5, 6] xs.length (fun k v i wr => MadeRel w ln xs k v i wr)
    case atStart => exact ⟨[], Nat.le_refl _, rfl, by have := HL.out; rw [h0] at this; simpa [Chn] using this.symm, by simp [keptN], Below.refl _ _⟩
    case round =>
      obtain ⟨l, hk, hi, hc, hm, hb⟩ := hrel
      subst hi
      cases gk with
      | zero =>
        have HC := Lib.hid hc
        have HM := Lib.hid hm
        clear hc hm
        go_wp2_with fail
        go_ret
        exact ⟨_, l, rfl, HC.out, by have := HM.out; simpa using this, hb⟩
      | succ j =>
        have ej : (((j + 1 : Nat) : Int) - 1) = (j : Int) := by omega
        rw [ej]
        obtain ⟨⟨s, n⟩, hxj⟩ : ∃ x, xs[j]? = some x := ⟨_, List.getElem?_eq_getElem (by omega)⟩
        obtain ⟨b, o, rfl, hlt, hcells⟩ := (HX.out.below hb) (by omega)
        obtain ⟨c1, c2⟩ := hcells j s n hxj
        have HC := Lib.hid hc
        have HM := Lib.hid hm
        have HB := Lib.hid hb
        have HXJ := Lib.hid hxj
        have hj : j < xs.length := by omega
        clear hc hm hb hcells hxj ej
        go_wp2_with fail
        have HC2 := Lib.hid (HC.out.below (Nat.le_refl _) (Below.refl _ wr).drew)
        have HB2 := Lib.hid (HB.out.drew)
        cases hz : (n == 0)
        · go_still_tail 11, (by kernel_rfl)
          change wpList _ _ _ _ _ wr.drew
          generalize wr.drew = w2 at *
          clear c1 c2 HC HB
          go_wp2_with (go_at_call 17; refine (wrap_new s n u5 _ hz HC2.out.isErr).mono ?_; rintro e w' ⟨rfl, rfl⟩)
          go_roundg j
          case measure => omega
          case rel =>
            exact ⟨_, by omega, rfl, Chn.push HC2.out, MadeRel.more HXJ.out hz HM.out, HB2.out.alloc HB2.out.size _⟩
        · have hn0 : n = 0 := by simpa using hz
          subst hn0
          clear hz
          go_still_tail 11, (by kernel_rfl)
          change wpList _ _ _ _ _ wr.drew
          generalize wr.drew = w2 at *
          clear c1 c2 HC HB
          go_wp2_with (go_at_call 17; refine (wrap_ok s u5 _).mono ?_; rintro e w' ⟨rfl, rfl⟩)
          go_roundg j
          case measure => omega
          case rel =>
            exact ⟨l, by omega, rfl, HC2.out, MadeRel.same HXJ.out HM.out, HB2.out⟩
end Go.Proofs.YtflmfppigpeiaaaDoor
