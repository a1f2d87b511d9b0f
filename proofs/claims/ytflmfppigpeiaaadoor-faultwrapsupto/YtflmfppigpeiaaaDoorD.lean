/- fault.Has tells whether a number is one of those of the chain, or the one that ends it; only new memory is written. -/
import Derived.Test.YtflmfppigpeiaaaDoorC
namespace Go.Proofs.YtflmfppigpeiaaaDoor
open Go.RowKit

def hasB (ns : List Int) (ln e : Int) : Bool := if e = 0 then ns.isEmpty && ln == 0 else ns.any (· == e) || ln == e

def HasPost (w : World) (r : Bool) (e : Ending) (w' : World) : Prop := e = .returned (.bool r) ∧ Below w.heap.size w w'

theorem Chn.num {w : World} {ln : Int} : ∀ {l : List (Nat × Int)} {v : Value}, Chn w ln l v → ∀ k (h : k < l.length), w.cell? ⟨l[k].1, 1, none⟩ = some (.int .i64 l[k].2) := by
  intro l
  induction l with
  | nil => intro v _ k h; simp at h
  | cons x r ih =>
    intro v h k hk
    obtain ⟨b, n⟩ := x
    obtain ⟨_, c1, u, _, hr⟩ := h
    cases k with
    | zero => exact c1
    | succ k => exact ih hr k (by simpa using hk)

theorem has_zero {w : World} {ln : Int} {l : List (Nat × Int)} {v : Value} (h : Chn w ln l v) :
    Calls Tryd.prog 15 #[v, .int .i64 0] w (HasPost w (l.isEmpty && ln == 0)) := by
  cases l with
  | nil =>
    have hv : v = lastV ln := h
    unfold lastV at hv
    by_cases h0 : ln = 0
    · rw [if_pos h0] at hv
      subst hv h0
      clear h
      go_enter Tryd.func15, Tryd.ntmps15
      go_wp2
      go_ret
      exact ⟨rfl, Below.refl _ _⟩
    · rw [if_neg h0] at hv
      subst hv
      have h1 : (ln == 0) = false := by simp [h0]
      clear h h0
      go_enter Tryd.func15, Tryd.ntmps15
      go_wp2
      go_ret
      exact ⟨by simp [h1], Below.refl _ _⟩
  | cons x r =>
    obtain ⟨b, n⟩ := x
    obtain ⟨rfl, _⟩ := h
    go_enter Tryd.func15, Tryd.ntmps15
    go_wp2
    go_ret
    exact ⟨by simp, Below.refl _ _⟩

theorem zero_ne {e : Int} (he : (e == 0) = false) : ((0 : Int) == e) = false := by
  have h : e ≠ 0 := by simpa using he
  simp
  omega

/-- None of the first k faults has the number. -/
def NoneYet (l : List (Nat × Int)) (e : Int) (k : Nat) : Prop := ((l.take k).map (·.2)).any (· == e) = false

theorem NoneYet.step {l : List (Nat × Int)} {e n : Int} {b k : Nat} (h : NoneYet l e k) (hx : l[k]? = some (b, n)) (hne : (n == e) = false) : NoneYet l e (k + 1) := by
  unfold NoneYet at *
  rw [List.take_add_one, hx]
  simp only [Option.toList, List.map_append, List.any_append, h, Bool.false_or]
  simpa using hne

theorem any_hit {l : List (Nat × Int)} {e n : Int} {b k : Nat} (hx : l[k]? = some (b, n)) (he : (n == e) = true) : (l.map (·.2)).any (· == e) = true := by
  rw [List.any_eq_true]
  exact ⟨n, List.mem_map.2 ⟨(b, n), List.mem_of_getElem? hx, rfl⟩, he⟩

theorem has_some {w : World} {ln e : Int} {l : List (Nat × Int)} {v : Value} (h : Chn w ln l v) (he : (e == 0) = false) (hl : l.length ≤ 100) :
    Calls Tryd.prog 15 #[v, .int .i64 e] w (HasPost w ((l.map (·.2)).any (· == e) || ln == e)) := by
  have H21 := Lib.hid (chain_any h hl)
  have H := Lib.hid h
  clear h
  go_enter Tryd.func15, Tryd.ntmps15
  go_wp2_with (go_at_call 21; refine H21.out.mono ?_; rintro e w' ⟨sv, rfl, hown, hb⟩; rcases hown.2 with ⟨rfl, hn⟩ | ⟨g, cap, cur, rfl, hg, hh, hnc, hcm, hcs, htk⟩)
  · have HN := Lib.hid (List.eq_nil_of_length_eq_zero hn)
    have HB := Lib.hid hb
    clear hown hb hn
    refine wp_loop_rounds 1 ?_
    rw [rounds_succ]
    by_cases h0 : ln = 0
    · have e1 : lastV ln = .nilIface := by simp [lastV, h0]
      have h1 : (ln == e) = false := by rw [h0]; exact zero_ne he
      have H1 := Lib.hid h1
      clear h0 h1
      go_wp2_with (first | (go_at_call 19; refine (known_nil _).mono ?_; rintro e w' ⟨rfl, rfl⟩))
      go_ret
      exact ⟨by rw [HN.out, H1.out]; rfl, HB.out⟩
    · have e1 : lastV ln = .iface 28 (.int .i64 ln) := by simp [lastV, h0]
      clear h0
      go_wp2_with (first | (go_at_call 19; refine (known_num _ _).mono ?_; rintro e w' ⟨rfl, rfl⟩) | (go_at_call 24; refine (is_num _ _ _).mono ?_; rintro e w' ⟨rfl, rfl⟩))
      go_ret
      exact ⟨by rw [HN.out]; rfl, HB.out⟩
  · have hcell : ∀ (k b : Nat) (n : Int), l[k]? = some (b, n) → w'.cell? ⟨g, k, none⟩ = some (.pointer (some ⟨b, 0, none⟩)) := by
      intro k b n hx
      have := hown.cells (g := g) rfl k (.pointer (some ⟨b, 0, none⟩)) (by simp [ptrs, hx])
      simpa [Addr.add_lit] using this
    have hnum : ∀ (k b : Nat) (n : Int), l[k]? = some (b, n) → w'.cell? ⟨b, 1, none⟩ = some (.int .i64 n) := by
      intro k b n hx
      obtain ⟨hk, hx'⟩ := List.getElem?_eq_some_iff.1 hx
      have c := H.out.num k hk
      rw [hx'] at c
      exact (hb.cell (p := ⟨b, 1, none⟩) (World.block_lt_of_cell? w _ c)).trans c
    have HC := Lib.hid hcell
    have HM := Lib.hid hnum
    have HB := Lib.hid hb
    clear hown hb hcell hnum hh htk hcs hg
    go_loop [20] (fun i => ∃ k : Nat, k ≤ l.length ∧ i = .int .i64 k ∧ NoneYet l e k) (fun i => l.length - (intOf i).toNat)
    case atStart => exact ⟨0, Nat.zero_le _, rfl, rfl⟩
    case round =>
      obtain ⟨k, hk, rfl, hno⟩ := hrel
      by_cases hlt : k < l.length
      · obtain ⟨⟨b, n⟩, hx⟩ : ∃ x, l[k]? = some x := ⟨_, List.getElem?_eq_getElem hlt⟩
        have c1 := HC.out k b n hx
        have c2 := HM.out k b n hx
        have HX := Lib.hid hx
        clear hx
        cases hne : (n == e)
        · go_wp2_with (first | (go_at_call 24; refine (is_num _ _ _).mono ?_; rintro e w' ⟨rfl, rfl⟩))
          go_round
          case rel => exact ⟨k + 1, by omega, by go_num, hno.step HX.out hne⟩
          case measure => simp [intOf]; omega
        · go_wp2_with (first | (go_at_call 24; refine (is_num _ _ _).mono ?_; rintro e w' ⟨rfl, rfl⟩))
          go_ret
          exact ⟨by rw [any_hit HX.out hne]; rfl, HB.out⟩
      · have hkl : k = l.length := by omega
        have hall : (l.map (·.2)).any (· == e) = false := by
          have := hno
          unfold NoneYet at this
          rwa [hkl, List.take_length] at this
        have HA := Lib.hid hall
        clear hall hkl hno
        by_cases h0 : ln = 0
        · have e1 : lastV ln = .nilIface := by simp [lastV, h0]
          have h1 : (ln == e) = false := by rw [h0]; exact zero_ne he
          have H1 := Lib.hid h1
          clear h0 h1
          go_wp2_with (first | (go_at_call 19; refine (known_nil _).mono ?_; rintro e w' ⟨rfl, rfl⟩))
          go_ret
          exact ⟨by rw [HA.out, H1.out]; rfl, HB.out⟩
        · have e1 : lastV ln = .iface 28 (.int .i64 ln) := by simp [lastV, h0]
          clear h0
          go_wp2_with (first | (go_at_call 19; refine (known_num _ _).mono ?_; rintro e w' ⟨rfl, rfl⟩) | (go_at_call 24; refine (is_num _ _ _).mono ?_; rintro e w' ⟨rfl, rfl⟩))
          go_ret
          exact ⟨by rw [HA.out]; rfl, HB.out⟩

theorem has_any {w : World} {ln e : Int} {l : List (Nat × Int)} {v : Value} (h : Chn w ln l v) (hl : l.length ≤ 100) :
    Calls Tryd.prog 15 #[v, .int .i64 e] w (HasPost w (hasB (l.map (·.2)) ln e)) := by
  unfold hasB
  by_cases he : e = 0
  · rw [if_pos he]
    subst he
    simpa using has_zero h
  · rw [if_neg he]
    exact has_some h (by simpa using he) hl
end Go.Proofs.YtflmfppigpeiaaaDoor
