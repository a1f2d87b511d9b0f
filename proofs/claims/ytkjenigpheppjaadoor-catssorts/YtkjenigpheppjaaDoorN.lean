/- The mathematics of sorting: what slices.Compact leaves of a sorted list; lists that rise strictly. -/
import Derived.Test.YtkjenigpheppjaaDoorL
import Derived.Lib.SlicesCompact
namespace Go.Proofs.YtkjenigpheppjaaDoor
open Go.Lib

/-- It rises strictly. -/
def Rises {α : Type} (c : α → α → Int) (l : List α) : Prop := l.Pairwise fun x y => c x y = -1
def RisesW {α : Type} (c : α → α → Int) (l : List α) : Prop := l.Pairwise fun x y => c x y ≤ 0

theorem get_lt {α : Type} [Inhabited α] {zs : List α} {i : Nat} (h : i < zs.length) : zs.toArray[i]! = zs[i] := by
  rw [getElem!_pos zs.toArray i (by simpa using h)]
  simp

theorem rises_compact {α : Type} [Inhabited α] [DecidableEq α] {c : α → α → Int} (hT : Tot c) {zs : List α} (h : RisesW c zs) : Rises c (compact zs) ∧ ∀ x, x ∈ compact zs ↔ x ∈ zs := by
  have le : ∀ i j, i ≤ j → (hj : j < zs.length) → c zs.toArray[i]! zs.toArray[j]! ≤ 0 := fun i j hij hj => by
    rw [get_lt (by omega), get_lt hj]
    by_cases e : i = j
    · subst e
      rw [hT.refl]
      omega
    · exact List.pairwise_iff_getElem.1 h i j (by omega) hj (by omega)
  constructor
  · unfold Rises compact compactUpTo
    rw [List.pairwise_map]
    have hp : ((List.range zs.length).filter (keeps zs.toArray)).Pairwise (· < ·) := List.Pairwise.filter _ List.pairwise_lt_range
    refine hp.imp_of_mem fun {i j} hi hj hij => ?_
    have hj1 := (List.mem_filter.1 hj)
    have hjl : j < zs.length := by simpa using hj1.1
    have hk := hj1.2
    have hne : zs.toArray[j]! ≠ zs.toArray[j - 1]! := by
      intro e
      rw [keeps_neg (by omega) e] at hk
      cases hk
    have h1 := le i (j - 1) (by omega) (by omega)
    have h2 := le (j - 1) j (by omega) hjl
    have h3 : c zs.toArray[j - 1]! zs.toArray[j]! = -1 := by
      rcases hT.one zs.toArray[j - 1]! zs.toArray[j]! with h | h | h
      · exact h
      · exact absurd ((hT.eq _ _).1 h).symm hne
      · omega
    have h4 := hT.trans _ _ _ h1 h2
    rcases hT.one zs.toArray[i]! zs.toArray[j]! with h | h | h
    · exact h
    · have e := (hT.eq _ _).1 h
      rw [e] at h1
      have := hT.neg zs.toArray[j - 1]! zs.toArray[j]!
      omega
    · omega
  · intro x
    unfold compact compactUpTo
    constructor
    · intro hx
      obtain ⟨j, hj, rfl⟩ := List.mem_map.1 hx
      have hjl : j < zs.length := by simpa using (List.mem_filter.1 hj).1
      rw [get_lt hjl]
      exact List.getElem_mem hjl
    · intro hx
      have key : ∀ j, (hj : j < zs.length) → zs.toArray[j]! = x → x ∈ ((List.range zs.length).filter (keeps zs.toArray)).map (zs.toArray[·]!) := by
        intro j
        induction j with
        | zero =>
          intro hj e
          exact List.mem_map.2 ⟨0, List.mem_filter.2 ⟨by simpa using hj, keeps_lt_one _ 0 (by omega)⟩, e⟩
        | succ j ih =>
          intro hj e
          by_cases hk : zs.toArray[j + 1]! = zs.toArray[j]!
          · exact ih (by omega) (hk.symm.trans e)
          · exact List.mem_map.2 ⟨j + 1, List.mem_filter.2 ⟨by simpa using hj, keeps_pos (by simpa using hk)⟩, e⟩
      obtain ⟨j, hj, e⟩ := List.getElem_of_mem hx
      exact key j hj (by rw [get_lt hj]; exact e)

theorem rises_unique {α : Type} {c : α → α → Int} (hT : Tot c) : ∀ {l m : List α}, Rises c l → Rises c m → (∀ x, x ∈ l ↔ x ∈ m) → l = m
  | [], [], _, _, _ => rfl
  | [], y :: m, _, _, h => absurd ((h y).2 (by simp)) (by simp)
  | x :: l, [], _, _, h => absurd ((h x).1 (by simp)) (by simp)
  | x :: l, y :: m, hl, hm, h => by
    have hl1 := List.pairwise_cons.1 hl
    have hm1 := List.pairwise_cons.1 hm
    have irr : ∀ z, ¬ c z z = -1 := fun z e => by rw [hT.refl] at e; omega
    have exy : x = y := by
      rcases List.mem_cons.1 ((h x).1 (by simp)) with e | e
      · exact e
      · rcases List.mem_cons.1 ((h y).2 (by simp)) with e2 | e2
        · exact e2.symm
        · exact absurd (hT.lt_trans (hl1.1 y e2) (hm1.1 x e)) (irr x)
    subst exy
    rw [rises_unique hT hl1.2 hm1.2 (fun z => ?_)]
    constructor
    · intro hz
      rcases List.mem_cons.1 ((h z).1 (List.mem_cons_of_mem _ hz)) with e | e
      · subst e
        exact absurd (hl1.1 z hz) (irr z)
      · exact e
    · intro hz
      rcases List.mem_cons.1 ((h z).2 (List.mem_cons_of_mem _ hz)) with e | e
      · subst e
        exact absurd (hm1.1 z hz) (irr z)
      · exact e
end Go.Proofs.YtkjenigpheppjaaDoor
