/- The mathematics of the reference's sort: a text put into a list that rises strictly. -/
import Derived.Test.YtglidfmgechneaaGreatDoorN
namespace Go.Proofs.YtglidfmgechneaaGreatDoor

/-- Behind j elements of R: N has them, and s if d. -/
structure InsAt {α : Type} (c : α → α → Int) (R : List α) (s : α) (j : Nat) (N : List α) (d : Bool) : Prop where
  rises : Rises c N
  mem : ∀ x, x ∈ N ↔ x ∈ R.take j ∨ (d = true ∧ x = s)
  yes : d = true → ∀ t ∈ R.drop j, c s t = -1
  no : d = false → ∀ t ∈ R.take j, c t s = -1
  len : N.length ≤ j + 1

theorem rises_snoc {α : Type} {c : α → α → Int} {N : List α} {t : α} (h : Rises c N) (ht : ∀ x ∈ N, c x t = -1) : Rises c (N ++ [t]) := by
  unfold Rises at *
  rw [List.pairwise_append]
  exact ⟨h, List.pairwise_singleton _ _, fun x hx y hy => by rw [List.mem_singleton.1 hy]; exact ht x hx⟩
theorem mem_take_snoc {α : Type} {R : List α} {j : Nat} {t : α} (h : R[j]? = some t) (x : α) : x ∈ R.take (j + 1) ↔ x ∈ R.take j ∨ x = t := by
  rw [List.take_add_one, h]
  simp
theorem rises_take {α : Type} {c : α → α → Int} {R : List α} {j : Nat} {t : α} (hR : Rises c R) (h : R[j]? = some t) : ∀ x ∈ R.take j, c x t = -1 := fun x hx => by
  obtain ⟨h1, h2⟩ := List.getElem?_eq_some_iff.1 h
  obtain ⟨i, hi, rfl⟩ := List.getElem_of_mem hx
  have hi' : i < j := by simp at hi; omega
  rw [List.getElem_take, ← h2]
  exact List.pairwise_iff_getElem.1 hR i j (by omega) h1 hi'
theorem rises_drop {α : Type} {c : α → α → Int} {R : List α} {j : Nat} {t : α} (hR : Rises c R) (h : R[j]? = some t) : ∀ x ∈ R.drop (j + 1), c t x = -1 := fun x hx => by
  obtain ⟨h1, h2⟩ := List.getElem?_eq_some_iff.1 h
  obtain ⟨i, hi, rfl⟩ := List.getElem_of_mem hx
  simp only [List.length_drop] at hi
  rw [List.getElem_drop, ← h2]
  exact List.pairwise_iff_getElem.1 hR j (j + 1 + i) h1 (by omega) (by omega)
theorem drop_mem {α : Type} {R : List α} {j : Nat} {t : α} (h : R[j]? = some t) : t ∈ R.drop j ∧ ∀ x ∈ R.drop (j + 1), x ∈ R.drop j := by
  obtain ⟨h1, h2⟩ := List.getElem?_eq_some_iff.1 h
  rw [List.drop_eq_getElem_cons h1, h2]
  exact ⟨by simp, fun x hx => List.mem_cons_of_mem _ hx⟩

theorem InsAt.start {α : Type} {c : α → α → Int} (R : List α) (s : α) : InsAt c R s 0 [] false :=
  ⟨List.Pairwise.nil, (fun x => by simp), (fun h => by cases h), (fun _ t ht => by simp at ht), by simp⟩

/-- A round: s is t. -/
theorem InsAt.same {α : Type} {c : α → α → Int} (hT : Tot c) {R : List α} {s t : α} {j : Nat} {N : List α} {d : Bool} (hR : Rises c R) (ht : R[j]? = some t) (h : InsAt c R s j N d) (hc : c s t = 0) : InsAt c R s (j + 1) (N ++ [t]) true := by
  have e := (hT.eq s t).1 hc
  subst e
  have hd : d = false := by
    cases d with
    | false => rfl
    | true => have := h.yes rfl s (drop_mem ht).1; omega
  subst hd
  refine ⟨rises_snoc h.rises fun x hx => ?_, fun x => ?_, fun _ => rises_drop hR ht, fun h => (by cases h), by have := h.len; simp; omega⟩
  · rcases (h.mem x).1 hx with h1 | ⟨h1, _⟩
    · exact rises_take hR ht x h1
    · cases h1
  · rw [List.mem_append, h.mem x, mem_take_snoc ht x, List.mem_singleton]
    simp
/-- A round: s goes ahead of t. -/
theorem InsAt.put {α : Type} {c : α → α → Int} (hT : Tot c) {R : List α} {s t : α} {j : Nat} {N : List α} (hR : Rises c R) (ht : R[j]? = some t) (h : InsAt c R s j N false) (hc : c s t = -1) : InsAt c R s (j + 1) ((N ++ [s]) ++ [t]) true := by
  have hm : ∀ x ∈ N, x ∈ R.take j := fun x hx => by
    rcases (h.mem x).1 hx with h1 | ⟨h1, _⟩
    · exact h1
    · cases h1
  have hl : N.length ≤ j := by
    have h1 := rises_unique hT h.rises (m := R.take j) (List.Pairwise.sublist (List.take_sublist _ _) hR) (fun x => by rw [h.mem x]; simp)
    rw [h1]
    exact List.length_take_le _ _
  refine ⟨rises_snoc (rises_snoc h.rises fun x hx => h.no rfl x (hm x hx)) fun x hx => ?_, fun x => ?_, fun _ x hx => hT.lt_trans hc (rises_drop hR ht x hx), fun h => (by cases h), by simp; omega⟩
  · rcases List.mem_append.1 hx with h1 | h1
    · exact rises_take hR ht x (hm x h1)
    · rw [List.mem_singleton.1 h1]; exact hc
  · rw [List.mem_append, List.mem_append, h.mem x, mem_take_snoc ht x, List.mem_singleton, List.mem_singleton]
    constructor
    · rintro (((h1 | ⟨h1, _⟩) | h1) | h1)
      · exact .inl (.inl h1)
      · cases h1
      · exact .inr ⟨rfl, h1⟩
      · exact .inl (.inr h1)
    · rintro ((h1 | h1) | ⟨_, h1⟩)
      · exact .inl (.inl (.inl h1))
      · exact .inr h1
      · exact .inl (.inr h1)
/-- A round: s stands already. -/
theorem InsAt.pass {α : Type} {c : α → α → Int} {R : List α} {s t : α} {j : Nat} {N : List α} (hR : Rises c R) (ht : R[j]? = some t) (h : InsAt c R s j N true) : InsAt c R s (j + 1) (N ++ [t]) true := by
  have hc := h.yes rfl t (drop_mem ht).1
  refine ⟨rises_snoc h.rises fun x hx => ?_, fun x => ?_, fun _ x hx => h.yes rfl x ((drop_mem ht).2 x hx), fun h => (by cases h), by have := h.len; simp; omega⟩
  · rcases (h.mem x).1 hx with h1 | ⟨_, h1⟩
    · exact rises_take hR ht x h1
    · rw [h1]; exact hc
  · rw [List.mem_append, h.mem x, mem_take_snoc ht x, List.mem_singleton]
    constructor
    · rintro ((h1 | h1) | h1)
      · exact .inl (.inl h1)
      · exact .inr h1
      · exact .inl (.inr h1)
    · rintro ((h1 | h1) | h1)
      · exact .inl (.inl h1)
      · exact .inr h1
      · exact .inl (.inr h1)
/-- A round: s comes behind t. -/
theorem InsAt.wait {α : Type} {c : α → α → Int} (hT : Tot c) {R : List α} {s t : α} {j : Nat} {N : List α} (hR : Rises c R) (ht : R[j]? = some t) (h : InsAt c R s j N false) (hc : c s t = 1) : InsAt c R s (j + 1) (N ++ [t]) false := by
  refine ⟨rises_snoc h.rises fun x hx => ?_, fun x => ?_, fun h => (by cases h), fun _ x hx => ?_, by have := h.len; simp; omega⟩
  · rcases (h.mem x).1 hx with h1 | ⟨h1, _⟩
    · exact rises_take hR ht x h1
    · cases h1
  · rw [List.mem_append, h.mem x, mem_take_snoc ht x, List.mem_singleton]
    simp
  · rcases (mem_take_snoc ht x).1 hx with h1 | h1
    · exact h.no rfl x h1
    · have := hT.neg s t
      rw [h1]; omega
theorem InsAt.done {α : Type} {c : α → α → Int} {R : List α} {s : α} {N : List α} {j : Nat} (hj : R.length ≤ j) (h : InsAt c R s j N true) : Rises c N ∧ ∀ x, x ∈ N ↔ x ∈ R ∨ x = s := by
  refine ⟨h.rises, fun x => ?_⟩
  rw [h.mem x, List.take_of_length_le hj]
  simp
theorem InsAt.last {α : Type} {c : α → α → Int} {R : List α} {s : α} {N : List α} {j : Nat} (hj : R.length ≤ j) (h : InsAt c R s j N false) : Rises c (N ++ [s]) ∧ ∀ x, x ∈ N ++ [s] ↔ x ∈ R ∨ x = s := by
  have hm : ∀ x, x ∈ N ↔ x ∈ R := fun x => by rw [h.mem x, List.take_of_length_le hj]; simp
  refine ⟨rises_snoc h.rises fun x hx => h.no rfl x (by rw [List.take_of_length_le hj]; exact (hm x).1 hx), fun x => ?_⟩
  rw [List.mem_append, hm x, List.mem_singleton]
end Go.Proofs.YtglidfmgechneaaGreatDoor
