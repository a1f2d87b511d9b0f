/- Lemmas for the law: Xt, Xp, Xc, Xk. -/
import Derived.Test.YtgcbfggoddkhnaaGreatDoorM06
import Derived.Test.YtgcbfggoddkhnaaGreatDoorM09
import Derived.Test.YtgcbfggoddkhnaaGreatDoorM08
namespace Go.Proofs.YtgcbfggoddkhnaaGreatDoor
open Pa
abbrev Item := List Int × Ob
abbrev Tab := List Item
def fnd : Tab → List Int → Option Ob
  | [], _ => none
  | x :: r, p => if x.1 = p then some x.2 else fnd r p
def Asc (L : Tab) : Prop := L.Pairwise fun a b => cmpZ a.1 b.1 = -1
theorem cmpZ_irr (z : List Int) : ¬ cmpZ z z = -1 := fun e => by rw [tot_cmpZ.refl] at e; omega
theorem cmpZ_ne {p q : List Int} (h : cmpZ p q = -1) : p ≠ q := fun e => by subst e; exact cmpZ_irr _ h
theorem fnd_mem : ∀ {L : Tab} {p : List Int} {o : Ob}, fnd L p = some o → (p, o) ∈ L
  | [], _, _, h => by cases h
  | x :: r, p, o, h => by
    rw [fnd] at h
    split at h
    · rename_i e; cases h; subst e; simp
    · exact List.mem_cons_of_mem _ (fnd_mem h)
theorem fnd_of : ∀ {L : Tab} {x : Item}, Asc L → x ∈ L → fnd L x.1 = some x.2
  | [], _, _, h => by cases h
  | y :: r, x, hA, h => by
    obtain ⟨h1, h2⟩ := List.pairwise_cons.1 hA
    rw [fnd]
    rcases List.mem_cons.1 h with rfl | h
    · rw [if_pos rfl]
    · rw [if_neg (cmpZ_ne (h1 x h)), fnd_of h2 h]
theorem fnd_none {L : Tab} {p : List Int} : fnd L p = none ↔ ∀ x ∈ L, x.1 ≠ p := by
  induction L with
  | nil => simp [fnd]
  | cons x r ih =>
    rw [fnd]
    split
    · rename_i e
      exact ⟨fun h => (by cases h), fun h => absurd e (h x (by simp))⟩
    · rename_i e
      rw [ih]
      constructor
      · intro h y hy
        rcases List.mem_cons.1 hy with rfl | hy
        · exact e
        · exact h y hy
      · exact fun h y hy => h y (List.mem_cons_of_mem _ hy)
theorem asc_ext : ∀ {L M : Tab}, Asc L → Asc M → (∀ x, x ∈ L ↔ x ∈ M) → L = M
  | [], [], _, _, _ => rfl
  | [], y :: m, _, _, h => absurd ((h y).2 (by simp)) (by simp)
  | x :: l, [], _, _, h => absurd ((h x).1 (by simp)) (by simp)
  | x :: l, y :: m, hl, hm, h => by
    have hl1 := List.pairwise_cons.1 hl
    have hm1 := List.pairwise_cons.1 hm
    have exy : x = y := by
      rcases List.mem_cons.1 ((h x).1 (by simp)) with e | e
      · exact e
      · rcases List.mem_cons.1 ((h y).2 (by simp)) with e2 | e2
        · exact e2.symm
        · exact absurd (tot_cmpZ.lt_trans (hl1.1 y e2) (hm1.1 x e)) (cmpZ_irr _)
    subst exy
    rw [asc_ext hl1.2 hm1.2 fun z => ?_]
    constructor
    · intro hz
      rcases List.mem_cons.1 ((h z).1 (List.mem_cons_of_mem _ hz)) with e | e
      · subst e; exact absurd (hl1.1 z hz) (cmpZ_irr _)
      · exact e
    · intro hz
      rcases List.mem_cons.1 ((h z).2 (List.mem_cons_of_mem _ hz)) with e | e
      · subst e; exact absurd (hm1.1 z hz) (cmpZ_irr _)
      · exact e
theorem asc_fnd {L M : Tab} (hL : Asc L) (hM : Asc M) (h : ∀ p, fnd L p = fnd M p) : L = M :=
  asc_ext hL hM fun x => ⟨fun hx => by
    have := fnd_of hL hx
    rw [h] at this
    exact fnd_mem this, fun hx => by
    have := fnd_of hM hx
    rw [← h] at this
    exact fnd_mem this⟩
def lay : Tab → List Int → Ob → Tab
  | [], p, o => [(p, o)]
  | x :: r, p, o => if cmpZ x.1 p = -1 then x :: lay r p o else if x.1 = p then (p, o) :: r else (p, o) :: x :: r
theorem lay_key : ∀ {L : Tab} {p : List Int} {o : Ob} {x : Item}, x ∈ lay L p o → x = (p, o) ∨ x ∈ L
  | [], p, o, x, h => by simp [lay] at h; exact .inl h
  | y :: r, p, o, x, h => by
    rw [lay] at h
    split at h
    · rcases List.mem_cons.1 h with rfl | h
      · exact .inr (by simp)
      · exact (lay_key h).imp_right (List.mem_cons_of_mem _)
    · split at h
      · rcases List.mem_cons.1 h with rfl | h
        · exact .inl rfl
        · exact .inr (List.mem_cons_of_mem _ h)
      · rcases List.mem_cons.1 h with rfl | h
        · exact .inl rfl
        · exact .inr h
theorem cmpZ_flip {p q : List Int} (h1 : ¬ cmpZ p q = -1) (h2 : p ≠ q) : cmpZ q p = -1 := by
  have h3 := tot_cmpZ.one p q
  have h4 := tot_cmpZ.neg p q
  have h5 : cmpZ p q ≠ 0 := fun e => h2 ((tot_cmpZ.eq p q).1 e)
  omega
theorem lay_asc : ∀ {L : Tab}, Asc L → ∀ (p : List Int) (o : Ob), Asc (lay L p o)
  | [], _, p, o => by simp [lay, Asc]
  | x :: r, hA, p, o => by
    obtain ⟨h1, h2⟩ := List.pairwise_cons.1 hA
    rw [lay]
    split
    · rename_i hx
      refine List.pairwise_cons.2 ⟨fun y hy => ?_, lay_asc h2 p o⟩
      rcases lay_key hy with rfl | hy
      · exact hx
      · exact h1 y hy
    · rename_i hx
      split
      · rename_i e
        subst e
        exact List.pairwise_cons.2 ⟨h1, h2⟩
      · rename_i hne
        have hlt := cmpZ_flip hx hne
        refine List.pairwise_cons.2 ⟨fun y hy => ?_, hA⟩
        rcases List.mem_cons.1 hy with rfl | hy
        · exact hlt
        · exact tot_cmpZ.lt_trans hlt (h1 y hy)
theorem fnd_lay : ∀ {L : Tab}, Asc L → ∀ (p : List Int) (o : Ob) (q : List Int), fnd (lay L p o) q = if q = p then some o else fnd L q
  | [], _, p, o, q => by
    simp only [lay, fnd]
    by_cases h : q = p
    · rw [if_pos h, if_pos h.symm]
    · rw [if_neg h, if_neg fun e => h e.symm]
  | x :: r, hA, p, o, q => by
    obtain ⟨h1, h2⟩ := List.pairwise_cons.1 hA
    rw [lay]
    split
    · rename_i hx
      simp only [fnd, fnd_lay h2 p o q]
      by_cases h : x.1 = q
      · rw [if_pos h, if_pos h, if_neg]
        intro e
        exact cmpZ_ne hx (h.trans e)
      · rw [if_neg h, if_neg h]
    · split
      · rename_i e
        simp only [fnd]
        by_cases h : q = p
        · rw [if_pos h, if_pos h.symm]
        · rw [if_neg h, if_neg (fun e => h e.symm), if_neg]
          intro e2
          exact h (e2.symm.trans e)
      · simp only [fnd]
        by_cases h : q = p
        · rw [if_pos h, if_pos h.symm]
        · rw [if_neg h, if_neg fun e => h e.symm]
theorem lay_mem {L : Tab} (hA : Asc L) {p : List Int} {o : Ob} {x : Item} : x ∈ lay L p o ↔ x = (p, o) ∨ (x ∈ L ∧ x.1 ≠ p) := by
  constructor
  · intro h
    have h1 := fnd_of (lay_asc hA p o) h
    rw [fnd_lay hA] at h1
    split at h1
    · rename_i e
      injection h1 with h1
      exact .inl (Prod.ext e h1.symm)
    · rename_i e
      exact .inr ⟨fnd_mem h1, e⟩
  · intro h
    have h2 : fnd (lay L p o) x.1 = some x.2 := by
      rw [fnd_lay hA]
      rcases h with rfl | ⟨h, hne⟩
      · rw [if_pos rfl]
      · rw [if_neg hne, fnd_of hA h]
    exact fnd_mem h2
theorem lay_len : ∀ (L : Tab) (p : List Int) (o : Ob), (lay L p o).length ≤ L.length + 1
  | [], p, o => by simp [lay]
  | x :: r, p, o => by
    rw [lay]
    split
    · have := lay_len r p o
      simp; omega
    · split <;> simp
theorem lay_len_has : ∀ {L : Tab}, Asc L → ∀ {p : List Int} (o : Ob), fnd L p ≠ none → (lay L p o).length = L.length
  | [], _, p, o, h => absurd rfl h
  | x :: r, hA, p, o, h => by
    obtain ⟨h1, h2⟩ := List.pairwise_cons.1 hA
    rw [lay]
    split
    · rename_i hx
      rw [fnd, if_neg (cmpZ_ne hx)] at h
      rw [List.length_cons, List.length_cons, lay_len_has h2 o h]
    · rename_i hx
      split
      · simp
      · rename_i hne
        refine absurd ?_ h
        rw [fnd_none]
        intro y hy
        rcases List.mem_cons.1 hy with rfl | hy
        · exact hne
        · exact fun e => by
            have h3 := tot_cmpZ.lt_trans (cmpZ_flip hx hne) (h1 y hy)
            rw [e] at h3
            exact cmpZ_irr _ h3
def lastZ (p : List Int) : Int := p.getLast?.getD 0
theorem lastZ_snoc (q : List Int) (n : Int) : lastZ (q ++ [n]) = n := by simp [lastZ]
theorem snoc_of {p : List Int} (h : p ≠ []) : p = p.dropLast ++ [lastZ p] := by
  rcases List.eq_nil_or_concat p with e | ⟨q, n, e⟩
  · exact absurd e h
  · rw [List.concat_eq_append] at e
    subst e
    simp [lastZ]
def quotaP (f : List Int → Option Ob) (p : List Int) : Int :=
  if p = [] then 1048576 else match f p.dropLast with
    | none => -1
    | some c => kidQ c.kids (lastZ p)
theorem quotaP_nil (f : List Int → Option Ob) : quotaP f [] = 1048576 := by simp [quotaP]
theorem quotaP_snoc (f : List Int → Option Ob) (q : List Int) (n : Int) : quotaP f (q ++ [n]) = match f q with | none => -1 | some c => kidQ c.kids n := by
  unfold quotaP
  rw [if_neg (by simp), List.dropLast_concat, lastZ_snoc]
def HoldsK (f : List Int → Option Ob) (p : List Int) (l : List Ent) (k : Kd) : Prop := PathOk (p ++ [k.1]) ∧ ∃ c, f (p ++ [k.1]) = some c ∧ c.kind = k.2.1 ∧ FlowsL l c.lab
def HoldsP (f : List Int → Option Ob) (p : List Int) (o : Ob) : Prop := ∀ k ∈ o.kids, HoldsK f p o.lab k
noncomputable instance (f : List Int → Option Ob) (p : List Int) (o : Ob) : Decidable (HoldsP f p o) := Classical.propDecidable _
def labAt (f : List Int → Option Ob) (p : List Int) : List Ent := match f p with
  | none => []
  | some c => c.lab
def FitO (f : List Int → Option Ob) (p : List Int) (o : Ob) : Prop := (p ≠ [] → FlowsL (labAt f p.dropLast) o.lab) ∧ HoldsP f p o
noncomputable instance (f : List Int → Option Ob) (p : List Int) (o : Ob) : Decidable (FitO f p o) := Classical.propDecidable _
structure ValT (L : Tab) : Prop where
  asc : Asc L
  root : ∃ r, fnd L [] = some r ∧ r.kind = 1
  path : ∀ x ∈ L, PathOk x.1
  ob : ∀ x ∈ L, ObOk x.2
  fits : ∀ x ∈ L, uses x.2 ≤ quotaP (fnd L) x.1
  holds : ∀ x ∈ L, HoldsP (fnd L) x.1 x.2
theorem ValT.obAt {L : Tab} (h : ValT L) {p : List Int} {o : Ob} (hp : fnd L p = some o) : ObOk o := h.ob _ (fnd_mem hp)
theorem ValT.pathAt {L : Tab} (h : ValT L) {p : List Int} {o : Ob} (hp : fnd L p = some o) : PathOk p := h.path _ (fnd_mem hp)
theorem ValT.entry {L : Tab} (h : ValT L) {q : List Int} {n : Int} {o : Ob} (hp : fnd L (q ++ [n]) = some o) :
    ∃ c, fnd L q = some c ∧ ∃ k ∈ c.kids, k.1 = n ∧ k.2.1 = o.kind ∧ kidQ c.kids n = k.2.2 ∧ uses o ≤ k.2.2 ∧ FlowsL c.lab o.lab := by
  have h1 := h.fits _ (fnd_mem hp)
  have h2 := (h.obAt hp).uses
  simp only [quotaP_snoc] at h1
  cases hc : fnd L q with
  | none => rw [hc] at h1; simp at h1; omega
  | some c =>
    rw [hc] at h1
    simp only at h1
    rcases kidQ_cases c.kids n with ⟨h3, _⟩ | ⟨k, hk, h3, h4⟩
    · omega
    · obtain ⟨_, d, hd, h6, h7⟩ := h.holds _ (fnd_mem hc) k hk
      simp only [h3] at hd
      rw [hp] at hd
      cases hd
      exact ⟨c, rfl, k, hk, h3, h6.symm, h4, by rw [← h4]; exact h1, h7⟩
theorem ValT.quota {L : Tab} (h : ValT L) {p : List Int} {o : Ob} (hp : fnd L p = some o) : uses o ≤ quotaP (fnd L) p := h.fits _ (fnd_mem hp)
theorem quotaP_le {L : Tab} (h : ValT L) {p : List Int} {o : Ob} (hp : fnd L p = some o) : 16 ≤ quotaP (fnd L) p ∧ quotaP (fnd L) p ≤ 1048576 := by
  have h1 := h.quota hp
  have h2 := (h.obAt hp).uses
  refine ⟨by omega, ?_⟩
  by_cases he : p = []
  · subst he; rw [quotaP_nil]; omega
  · have e := snoc_of he
    rw [e] at hp ⊢
    obtain ⟨c, hc, k, hk, hkn, _, hq, _⟩ := h.entry hp
    rw [quotaP_snoc, hc]
    simp only
    rw [hq]
    exact ((h.obAt hc).kids.2.1 k hk).2.2.2
theorem ValT.kid {L : Tab} (h : ValT L) {q : List Int} {c : Ob} (hc : fnd L q = some c) {k : Kd} (hk : k ∈ c.kids) : ∃ o, fnd L (q ++ [k.1]) = some o ∧ o.kind = k.2.1 ∧ FlowsL c.lab o.lab ∧ uses o ≤ k.2.2 := by
  obtain ⟨_, o, ho, h1, h2⟩ := h.holds _ (fnd_mem hc) k hk
  obtain ⟨c', hc', k', hk', h3, h4, h5, h6, _⟩ := h.entry ho
  simp only at ho
  rw [hc] at hc'
  cases hc'
  rw [kids_uniq (h.obAt hc).kids hk' hk h3] at h6
  exact ⟨o, ho, h1, h2, h6⟩
theorem ValT.box {L : Tab} (h : ValT L) {q : List Int} {c : Ob} (hc : fnd L q = some c) {k : Kd} (hk : k ∈ c.kids) : c.kind = 1 := by
  rcases (h.obAt hc).fields.1 with h1 | ⟨h1, _⟩
  · exact h1
  · rw [List.length_eq_zero_iff] at h1
    rw [h1] at hk
    cases hk
theorem ValT.isBox {L : Tab} (h : ValT L) {q : List Int} {n : Int} {o : Ob} (hp : fnd L (q ++ [n]) = some o) : ∃ c, fnd L q = some c ∧ c.kind = 1 := by
  obtain ⟨c, hc, k, hk, _⟩ := h.entry hp
  exact ⟨c, hc, h.box hc hk⟩
theorem ValT.up {L : Tab} (h : ValT L) : ∀ (r : List Int) {p : List Int} {o : Ob}, fnd L (p ++ r) = some o → ∃ c, fnd L p = some c
  | [], p, o, hp => ⟨o, by simpa using hp⟩
  | n :: r, p, o, hp => by
    have e : p ++ n :: r = (p ++ [n]) ++ r := by simp
    rw [e] at hp
    obtain ⟨c, hc⟩ := h.up r hp
    obtain ⟨d, hd, _⟩ := h.entry hc
    exact ⟨d, hd⟩
theorem holdsK_mono {f g : List Int → Option Ob} {p : List Int} {l : List Ent} {k : Kd} (h : HoldsK f p l k) (hg : g (p ++ [k.1]) = f (p ++ [k.1])) : HoldsK g p l k := by
  obtain ⟨h1, c, h2, h3⟩ := h
  exact ⟨h1, c, by rw [hg]; exact h2, h3⟩
theorem labAt_eq {f : List Int → Option Ob} {p : List Int} {c : Ob} (h : f p = some c) : labAt f p = c.lab := by unfold labAt; rw [h]
theorem snoc_ne (p : List Int) (n : Int) : p ++ [n] ≠ p := fun e => by simpa using congrArg List.length e
theorem snoc_inj {p q : List Int} {m n : Int} (h : p ++ [m] = q ++ [n]) : p = q ∧ m = n := by
  have := List.append_inj' h rfl
  exact ⟨this.1, by simpa using this.2⟩
theorem ValT.set {L : Tab} (h : ValT L) {p : List Int} {was o : Ob} (hp : fnd L p = some was) (hk : was.kind = o.kind) (ho : ObOk o) (h1 : was.kids = o.kids) (h2 : FitO (fnd L) p o) (h3 : uses o ≤ quotaP (fnd L) p) : ValT (lay L p o) := by
  have hq : ∀ q, quotaP (fnd (lay L p o)) q = quotaP (fnd L) q := by
    intro q
    unfold quotaP
    split
    · rfl
    · rw [fnd_lay h.asc]
      by_cases e : q.dropLast = p
      · rw [if_pos e, e, hp]
        simp only [h1]
      · rw [if_neg e]
  refine ⟨lay_asc h.asc p o, ?_, ?_, ?_, ?_, ?_⟩
  · obtain ⟨r, hr, h4⟩ := h.root
    rw [fnd_lay h.asc]
    split
    · rename_i e
      rw [e, hp] at hr
      cases hr
      exact ⟨o, rfl, by rw [← hk]; exact h4⟩
    · exact ⟨r, hr, h4⟩
  · intro x hx
    rcases (lay_mem h.asc).1 hx with rfl | ⟨hx, _⟩
    · exact h.pathAt hp
    · exact h.path x hx
  · intro x hx
    rcases (lay_mem h.asc).1 hx with rfl | ⟨hx, _⟩
    · exact ho
    · exact h.ob x hx
  · intro x hx
    rw [hq]
    rcases (lay_mem h.asc).1 hx with rfl | ⟨hx, _⟩
    · exact h3
    · exact h.fits x hx
  · intro x hx k hkx
    rcases (lay_mem h.asc).1 hx with rfl | ⟨hx, hne⟩
    · refine holdsK_mono (h2.2 k hkx) ?_
      rw [fnd_lay h.asc, if_neg (snoc_ne _ _)]
    · have h4 := h.holds x hx k hkx
      by_cases e : x.1 ++ [k.1] = p
      · obtain ⟨h5, c, h6, h7, h8⟩ := h4
        refine ⟨h5, o, by rw [fnd_lay h.asc, if_pos e], ?_, ?_⟩
        · rw [e, hp] at h6
          cases h6
          rw [← hk]; exact h7
        · have h9 := h2.1 (by rw [← e]; simp)
          rw [← e, List.dropLast_concat, labAt_eq (fnd_of h.asc hx)] at h9
          exact h9
      · refine holdsK_mono h4 ?_
        rw [fnd_lay h.asc, if_neg e]
def addK (c : Ob) (kind quota : Int) : Ob := { c with kids := c.kids ++ [(c.next, kind, quota)], next := c.next + 1 }
theorem ValT.fresh {L : Tab} (h : ValT L) {p : List Int} {c : Ob} (hp : fnd L p = some c) : fnd L (p ++ [c.next]) = none := by
  cases hx : fnd L (p ++ [c.next]) with
  | none => rfl
  | some o =>
    obtain ⟨d, hd, k, hk, h1, _⟩ := h.entry hx
    rw [hp] at hd
    cases hd
    have := ((h.obAt hp).kids.2.1 k hk).1.2
    omega
theorem addK_uses (c : Ob) (kind quota : Int) : uses (addK c kind quota) = uses c + quota := by
  unfold uses addK
  simp only [quotas_append, quotas]
  omega
theorem addK_ok {c : Ob} (h : ObOk c) (hk : c.kind = 1) {kind quota : Int} (h1 : 1 ≤ kind ∧ kind ≤ 5) (h2 : 0 ≤ quota ∧ quota ≤ 1048576) (h3 : c.kids.length ≠ 16) (h4 : c.next ≤ 1048576) : ObOk (addK c kind quota) := by
  have hn := h.next
  refine ⟨h.kind, h.lab, ⟨?_, ?_, ?_⟩, ⟨?_, ?_⟩, h.bytes, h.own, h.cats, h.entry, h.ring, h.maps, ⟨.inl hk, h.fields.2⟩⟩
  · have := h.kids.1
    simp only [addK, List.length_append, List.length_singleton]
    omega
  · intro k hk
    simp only [addK] at hk ⊢
    rcases List.mem_append.1 hk with hk | hk
    · have := h.kids.2.1 k hk
      exact ⟨⟨this.1.1, by have := this.1.2; omega⟩, this.2⟩
    · simp at hk
      subst hk
      exact ⟨⟨hn.1, by simp; omega⟩, h1, h2⟩
  · simp only [addK]
    rw [List.pairwise_append]
    refine ⟨h.kids.2.2, List.pairwise_singleton _ _, fun a ha b hb => ?_⟩
    simp at hb
    subst hb
    exact (h.kids.2.1 a ha).1.2
  · simp only [addK]; omega
  · simp only [addK]; omega
theorem kidQ_app (l : List Kd) (k : Kd) (n : Int) : kidQ (l ++ [k]) n = if (∃ x ∈ l, x.1 = n) then kidQ l n else if k.1 = n then k.2.2 else -1 := by
  induction l with
  | nil => simp [kidQ]
  | cons x r ih =>
    rw [List.cons_append, kidQ, kidQ, ih]
    by_cases hx : x.1 = n
    · rw [if_pos hx, if_pos hx, if_pos ⟨x, by simp, hx⟩]
    · rw [if_neg hx, if_neg hx]
      by_cases hr : ∃ y ∈ r, y.1 = n
      · obtain ⟨y, hy, e⟩ := hr
        rw [if_pos ⟨y, hy, e⟩, if_pos ⟨y, List.mem_cons_of_mem _ hy, e⟩]
      · rw [if_neg hr, if_neg (c := ∃ y ∈ x :: r, y.1 = n)]
        rintro ⟨y, hy, e⟩
        rcases List.mem_cons.1 hy with rfl | hy
        · exact hx e
        · exact hr ⟨y, hy, e⟩
theorem ValT.add {L : Tab} (h : ValT L) {p : List Int} {c o : Ob} {quota : Int} (hp : fnd L p = some c) (hk : c.kind = 1) (ho : ObOk o) (hk0 : o.kids = []) (hq : 0 ≤ quota ∧ quota ≤ 1048576) (hf : FlowsL c.lab o.lab)
    (h6 : p.length ≠ 6) (h16 : c.kids.length ≠ 16) (hn : c.next ≤ 1048576) (hu : uses o ≤ quota) (hb : uses c + quota ≤ quotaP (fnd L) p) : ValT (lay (lay L p (addK c o.kind quota)) (p ++ [c.next]) o) := by
  have hfr := h.fresh hp
  have hA1 := lay_asc h.asc p (addK c o.kind quota)
  have hpath := h.pathAt hp
  have hpk : PathOk (p ++ [c.next]) := by
    have := (h.obAt hp).next
    refine ⟨by have := hpath.1; simp; omega, fun z hz => ?_⟩
    rcases List.mem_append.1 hz with hz | hz
    · exact hpath.2 z hz
    · simp at hz; subst hz; omega
  have F : ∀ q, fnd (lay (lay L p (addK c o.kind quota)) (p ++ [c.next]) o) q = if q = p ++ [c.next] then some o else if q = p then some (addK c o.kind quota) else fnd L q := fun q => by
    rw [fnd_lay hA1, fnd_lay h.asc]
  have Q : ∀ q x, fnd L q = some x → quotaP (fnd (lay (lay L p (addK c o.kind quota)) (p ++ [c.next]) o)) q = quotaP (fnd L) q := by
    intro q x hx
    by_cases he : q = []
    · subst he; rw [quotaP_nil, quotaP_nil]
    · have e := snoc_of he
      rw [e] at hx ⊢
      obtain ⟨d, hd, k, hkd, hkn, _⟩ := h.entry hx
      rw [quotaP_snoc, quotaP_snoc, F, hd]
      have hne : q.dropLast ≠ p ++ [c.next] := fun e2 => by rw [e2, hfr] at hd; cases hd
      rw [if_neg hne]
      by_cases e2 : q.dropLast = p
      · rw [if_pos e2]
        rw [e2, hp] at hd
        cases hd
        simp only [addK]
        rw [kidQ_app, if_pos ⟨k, hkd, hkn⟩]
      · rw [if_neg e2]
  refine ⟨lay_asc hA1 _ _, ?_, ?_, ?_, ?_, ?_⟩
  · obtain ⟨r, hr, h4⟩ := h.root
    rw [F, if_neg (by simp)]
    by_cases e : [] = p
    · rw [if_pos e]
      exact ⟨_, rfl, hk⟩
    · rw [if_neg e]
      exact ⟨r, hr, h4⟩
  · intro x hx
    rcases (lay_mem hA1).1 hx with rfl | ⟨hx, _⟩
    · exact hpk
    · rcases (lay_mem h.asc).1 hx with rfl | ⟨hx, _⟩
      · exact hpath
      · exact h.path x hx
  · intro x hx
    rcases (lay_mem hA1).1 hx with rfl | ⟨hx, _⟩
    · exact ho
    · rcases (lay_mem h.asc).1 hx with rfl | ⟨hx, _⟩
      · exact addK_ok (h.obAt hp) hk ho.kind hq h16 hn
      · exact h.ob x hx
  · intro x hx
    rcases (lay_mem hA1).1 hx with rfl | ⟨hx, _⟩
    · simp only
      rw [quotaP_snoc, F, if_neg (fun e => snoc_ne _ _ e.symm), if_pos rfl]
      simp only [addK]
      rw [kidQ_app, if_neg, if_pos rfl]
      · exact hu
      · rintro ⟨k, hk1, hk2⟩
        have := ((h.obAt hp).kids.2.1 k hk1).1.2
        omega
    · rcases (lay_mem h.asc).1 hx with rfl | ⟨hx, _⟩
      · simp only
        rw [Q p c hp, addK_uses]
        exact hb
      · rw [Q _ _ (fnd_of h.asc hx)]
        exact h.fits x hx
  · intro x hx k hkx
    rcases (lay_mem hA1).1 hx with rfl | ⟨hx, _⟩
    · simp only [hk0] at hkx
      cases hkx
    · rcases (lay_mem h.asc).1 hx with rfl | ⟨hx, _⟩
      · simp only [addK] at hkx ⊢
        rcases List.mem_append.1 hkx with hkx | hkx
        · refine holdsK_mono (h.holds _ (fnd_mem hp) k hkx) ?_
          have hne : k.1 ≠ c.next := fun e => by have := ((h.obAt hp).kids.2.1 k hkx).1.2; omega
          rw [show fnd (lay (lay L p { c with kids := c.kids ++ [(c.next, o.kind, quota)], next := c.next + 1 }) (p ++ [c.next]) o) (p ++ [k.1]) = _ from F (p ++ [k.1]), if_neg (fun e => hne (snoc_inj e).2), if_neg (snoc_ne _ _)]
        · simp at hkx
          subst hkx
          exact ⟨hpk, o, (F _).trans (if_pos rfl), rfl, hf⟩
      · refine (fun h4 : HoldsK (fnd L) x.1 x.2.lab k => ?_) (h.holds x hx k hkx)
        obtain ⟨h5, d, h7, h8, h9⟩ := h4
        have hne : x.1 ++ [k.1] ≠ p ++ [c.next] := fun e => by rw [e, hfr] at h7; cases h7
        by_cases e : x.1 ++ [k.1] = p
        · rw [e, hp] at h7
          cases h7
          refine ⟨h5, addK c o.kind quota, (F _).trans ?_, h8, h9⟩
          rw [if_neg hne, if_pos e]
        · refine ⟨h5, d, (F _).trans ?_, h8, h9⟩
          rw [if_neg hne, if_neg e]
          exact h7
def allotK (c : Ob) (n quota : Int) : Ob := { c with kids := setQ c.kids n quota }
theorem kidQ_set {l : List Kd} (n q m : Int) : kidQ (setQ l n q) m = if m = n ∧ (∃ k ∈ l, k.1 = n) then q else kidQ l m := by
  induction l with
  | nil => simp [setQ, kidQ]
  | cons k r ih =>
    have e : setQ (k :: r) n q = (if k.1 = n then (k.1, k.2.1, q) else k) :: setQ r n q := rfl
    have e1 : ∀ y : Kd, (if y.1 = n then (y.1, y.2.1, q) else y).1 = y.1 := fun y => by split <;> rfl
    rw [e, kidQ, kidQ, e1, ih]
    by_cases hk : k.1 = m
    · rw [if_pos hk, if_pos hk]
      by_cases hn : k.1 = n
      · rw [if_pos hn, if_pos ⟨hk.symm.trans hn, k, by simp, hn⟩]
      · rw [if_neg hn, if_neg fun h => hn (hk.trans h.1)]
    · rw [if_neg hk, if_neg hk]
      by_cases hm : m = n
      · by_cases hr : ∃ y ∈ r, y.1 = n
        · obtain ⟨y, hy, e5⟩ := hr
          rw [if_pos ⟨hm, y, hy, e5⟩, if_pos ⟨hm, y, List.mem_cons_of_mem _ hy, e5⟩]
        · rw [if_neg (fun h => hr h.2), if_neg]
          rintro ⟨_, y, hy, e5⟩
          rcases List.mem_cons.1 hy with e6 | hy
          · exact hk (by rw [← e6, e5, hm])
          · exact hr ⟨y, hy, e5⟩
      · rw [if_neg (fun h => hm h.1), if_neg (fun h => hm h.1)]
theorem ValT.allot {L : Tab} (h : ValT L) {q : List Int} {n quota : Int} {c o : Ob} (hc : fnd L q = some c) (ho : fnd L (q ++ [n]) = some o) (hq : 0 ≤ quota ∧ quota ≤ 1048576) (hu : uses o ≤ quota) (hb : uses (allotK c n quota) ≤ quotaP (fnd L) q) : ValT (lay L q (allotK c n quota)) := by
  have F : ∀ p, fnd (lay L q (allotK c n quota)) p = if p = q then some (allotK c n quota) else fnd L p := fun p => fnd_lay h.asc _ _ _
  have hck : c.kind = 1 := by
    obtain ⟨d, hd, k, hk, _⟩ := h.entry ho
    rw [hc] at hd
    cases hd
    exact h.box hc hk
  have hok : ObOk (allotK c n quota) := by
    have h1 := h.obAt hc
    exact ⟨h1.kind, h1.lab, setQ_ok h1.kids hq.1 hq.2, h1.next, h1.bytes, h1.own, h1.cats, h1.entry, h1.ring, h1.maps, ⟨.inl hck, h1.fields.2⟩⟩
  have Q : ∀ p x, fnd L p = some x → quotaP (fnd (lay L q (allotK c n quota))) p = if p = q ++ [n] then quota else quotaP (fnd L) p := by
    intro p x hx
    by_cases he : p = []
    · subst he; rw [quotaP_nil, quotaP_nil, if_neg (by simp)]
    · have e := snoc_of he
      rw [e] at hx ⊢
      obtain ⟨d, hd, k, hkd, hkn, _⟩ := h.entry hx
      rw [quotaP_snoc, quotaP_snoc, F, hd]
      by_cases e2 : p.dropLast = q
      · rw [if_pos e2]
        rw [e2, hc] at hd
        cases hd
        simp only [allotK]
        rw [kidQ_set, e2]
        by_cases e3 : lastZ p = n
        · rw [if_pos ⟨e3, k, hkd, hkn.trans e3⟩, if_pos (by rw [e3])]
        · rw [if_neg (fun h => e3 h.1), if_neg fun h => e3 (snoc_inj h).2]
      · rw [if_neg e2, if_neg fun h => e2 (snoc_inj h).1]
  refine ⟨lay_asc h.asc _ _, ?_, ?_, ?_, ?_, ?_⟩
  · obtain ⟨r, hr, h4⟩ := h.root
    rw [F]
    split
    · exact ⟨_, rfl, hck⟩
    · exact ⟨r, hr, h4⟩
  · intro x hx
    rcases (lay_mem h.asc).1 hx with rfl | ⟨hx, _⟩
    · exact h.pathAt hc
    · exact h.path x hx
  · intro x hx
    rcases (lay_mem h.asc).1 hx with rfl | ⟨hx, _⟩
    · exact hok
    · exact h.ob x hx
  · intro x hx
    rcases (lay_mem h.asc).1 hx with rfl | ⟨hx, _⟩
    · simp only
      rw [Q q c hc, if_neg (fun e => snoc_ne _ _ e.symm)]
      exact hb
    · have h1 := fnd_of h.asc hx
      rw [Q _ _ h1]
      split
      · rename_i e
        rw [e, ho] at h1
        cases h1
        exact hu
      · exact h.fits x hx
  · intro x hx k hkx
    have key : ∀ p l m, HoldsK (fnd L) p l m → ∀ d, HoldsK (fnd (lay L q (allotK c n quota))) p l (m.1, m.2.1, d) := by
      rintro p l m ⟨h5, y, h7, h8, h9⟩ d
      refine ⟨h5, ?_⟩
      by_cases e : p ++ [m.1] = q
      · rw [e, hc] at h7
        cases h7
        exact ⟨allotK c n quota, by rw [F, if_pos e], h8, h9⟩
      · exact ⟨y, by rw [F, if_neg e]; exact h7, h8, h9⟩
    rcases (lay_mem h.asc).1 hx with rfl | ⟨hx, _⟩
    · simp only [allotK] at hkx
      obtain ⟨y, hy, h1, h2, _⟩ := setQ_mem hkx
      have := key q c.lab y (h.holds _ (fnd_mem hc) y hy) k.2.2
      rw [h1, h2] at this
      exact this
    · exact key _ _ _ (h.holds x hx k hkx) k.2.2
def dropKid (c : Ob) (n : Int) : Ob := { c with kids := dropK c.kids n }
def cut (L : Tab) (p : List Int) : Tab := L.filter fun x => !(decide (p <+: x.1))
theorem cut_asc {L : Tab} (h : Asc L) (p : List Int) : Asc (cut L p) := h.filter _
theorem fnd_cut {L : Tab} (h : Asc L) (p q : List Int) : fnd (cut L p) q = if p <+: q then none else fnd L q := by
  by_cases hq : p <+: q
  · rw [if_pos hq, fnd_none]
    intro x hx e
    have := (List.mem_filter.1 hx).2
    simp at this
    exact this (by rw [e]; exact hq)
  · rw [if_neg hq]
    cases hf : fnd L q with
    | none =>
      rw [fnd_none] at hf ⊢
      exact fun x hx => hf x (List.mem_filter.1 hx).1
    | some o =>
      exact fnd_of (x := (q, o)) (cut_asc h p) (List.mem_filter.2 ⟨fnd_mem hf, by simpa using hq⟩)
theorem kidQ_drop (l : List Kd) {n m : Int} (h : m ≠ n) : kidQ (dropK l n) m = kidQ l m := by
  induction l with
  | nil => rfl
  | cons k r ih =>
    unfold dropK at ih ⊢
    rw [List.filter_cons]
    by_cases hk : k.1 = n
    · rw [if_neg (by simpa using hk), ih, kidQ, if_neg]
      exact fun e => h (e.symm.trans hk)
    · rw [if_pos (by simpa using hk), kidQ, kidQ, ih]
theorem quotas_drop {x : Int} {l : List Kd} (h : ∀ k ∈ l, KidOk x k) (n : Int) : quotas (dropK l n) ≤ quotas l := by
  induction l with
  | nil => simp [dropK, quotas]
  | cons k r ih =>
    have h1 := ih fun y hy => h y (List.mem_cons_of_mem _ hy)
    have h2 := (h k (by simp)).2.2
    unfold dropK at h1 ⊢
    rw [List.filter_cons]
    split
    · simp only [quotas]; omega
    · simp only [quotas]; omega
theorem prefix_snoc_iff {p q : List Int} {n : Int} : p <+: q ++ [n] ↔ p <+: q ∨ p = q ++ [n] := by
  constructor
  · rintro ⟨r, hr⟩
    rcases List.eq_nil_or_concat r with e | ⟨s, m, e⟩
    · subst e
      exact .inr (by simpa using hr)
    · rw [List.concat_eq_append] at e
      subst e
      rw [← List.append_assoc] at hr
      exact .inl ⟨s, (snoc_inj hr).1⟩
  · rintro (⟨r, hr⟩ | h)
    · exact ⟨r ++ [n], by rw [← List.append_assoc, hr]⟩
    · rw [h]; exact List.prefix_rfl
theorem ValT.remove {L : Tab} (h : ValT L) {q : List Int} {n : Int} {c : Ob} (hc : fnd L q = some c) : ValT (cut (lay L q (dropKid c n)) (q ++ [n])) := by
  have hA := lay_asc h.asc q (dropKid c n)
  have hno : ¬ (q ++ [n] <+: q) := fun e => by have := e.length_le; simp at this; omega
  have F : ∀ p, fnd (cut (lay L q (dropKid c n)) (q ++ [n])) p = if q ++ [n] <+: p then none else if p = q then some (dropKid c n) else fnd L p := fun p => by
    rw [fnd_cut hA, fnd_lay h.asc]
  have hck := h.obAt hc
  have hok : ObOk (dropKid c n) := by
    refine ⟨hck.kind, hck.lab, dropK_ok hck.kids n, hck.next, hck.bytes, hck.own, hck.cats, hck.entry, hck.ring, hck.maps, ⟨?_, hck.fields.2⟩⟩
    refine hck.fields.1.imp_right fun h1 => ⟨?_, h1.2⟩
    have := List.length_filter_le (fun k : Kd => !(decide (k.1 = n))) c.kids
    have h2 := h1.1
    simp only [dropKid, dropK]
    omega
  have hus : uses (dropKid c n) ≤ uses c := by
    have := quotas_drop hck.kids.2.1 n
    unfold uses dropKid
    simp only
    omega
  have M : ∀ x, x ∈ cut (lay L q (dropKid c n)) (q ++ [n]) → ¬ (q ++ [n] <+: x.1) ∧ (x = (q, dropKid c n) ∨ (x ∈ L ∧ x.1 ≠ q)) := fun x hx => by
    obtain ⟨h1, h2⟩ := List.mem_filter.1 hx
    exact ⟨by simpa using h2, (lay_mem h.asc).1 h1⟩
  have Q : ∀ p x, fnd L p = some x → ¬ (q ++ [n] <+: p) → quotaP (fnd (cut (lay L q (dropKid c n)) (q ++ [n]))) p = quotaP (fnd L) p := by
    intro p x hx hp
    by_cases he : p = []
    · subst he; rw [quotaP_nil, quotaP_nil]
    · have e := snoc_of he
      rw [e] at hx hp ⊢
      obtain ⟨d, hd, k, hkd, hkn, _⟩ := h.entry hx
      rw [prefix_snoc_iff, not_or] at hp
      rw [quotaP_snoc, quotaP_snoc, F, if_neg hp.1, hd]
      by_cases e2 : p.dropLast = q
      · rw [if_pos e2]
        rw [e2, hc] at hd
        cases hd
        simp only [dropKid]
        refine kidQ_drop _ fun e3 => hp.2 ?_
        rw [e2, e3]
      · rw [if_neg e2]
  have H : ∀ p x k, fnd L p = some x → k ∈ x.kids → ¬ (q ++ [n] <+: p ++ [k.1]) → HoldsK (fnd (cut (lay L q (dropKid c n)) (q ++ [n]))) p x.lab k := by
    intro p x k hx hk hno
    obtain ⟨h5, d, h7, h8, h9⟩ := h.holds _ (fnd_mem hx) k hk
    refine ⟨h5, ?_⟩
    simp only at h7
    by_cases e : p ++ [k.1] = q
    · rw [e, hc] at h7
      cases h7
      exact ⟨dropKid c n, by rw [F, if_neg hno, if_pos e], h8, h9⟩
    · exact ⟨d, by rw [F, if_neg hno, if_neg e]; exact h7, h8, h9⟩
  refine ⟨cut_asc hA _, ?_, ?_, ?_, ?_, ?_⟩
  · obtain ⟨r, hr, h4⟩ := h.root
    rw [F, if_neg (by simp)]
    split
    · rename_i e
      rw [e, hc] at hr
      cases hr
      exact ⟨_, rfl, h4⟩
    · exact ⟨r, hr, h4⟩
  · intro x hx
    rcases (M x hx).2 with rfl | ⟨hx, _⟩
    · exact h.pathAt hc
    · exact h.path x hx
  · intro x hx
    rcases (M x hx).2 with rfl | ⟨hx, _⟩
    · exact hok
    · exact h.ob x hx
  · intro x hx
    obtain ⟨hnp, hx⟩ := M x hx
    rcases hx with rfl | ⟨hx, _⟩
    · simp only
      rw [Q q c hc hno]
      have := h.quota hc
      omega
    · rw [Q _ _ (fnd_of h.asc hx) hnp]
      exact h.fits x hx
  · intro x hx k hkx
    obtain ⟨hnp, hx⟩ := M x hx
    rcases hx with rfl | ⟨hx, hne⟩
    · simp only [dropKid] at hkx ⊢
      obtain ⟨h1, h2⟩ := dropK_mem.1 hkx
      refine H q c k hc h1 ?_
      rw [prefix_snoc_iff, not_or]
      exact ⟨hno, fun e => h2 (snoc_inj e).2.symm⟩
    · refine H x.1 x.2 k (fnd_of h.asc hx) hkx ?_
      rw [prefix_snoc_iff, not_or]
      exact ⟨hnp, fun e => hne (snoc_inj e).1.symm⟩
end Go.Proofs.YtgcbfggoddkhnaaGreatDoor

namespace Go.Proofs.YtgcbfggoddkhnaaGreatDoor
open Go.RowKit
def ob0 : Ob := ⟨0, [], [], 0, [], [], 0, [], 0, []⟩
theorem ob0_at (w : World) (F : Nat → Prop) : ObjAt w F zeroO ob0 :=
  ⟨_, ⟨_, _, _, _, _, rfl, SlV.nil _ _, SlV.nil _ _, SlV.nil _ _, SlV.nil _ _, MapsV.nil _ _⟩, SlV.nil _ _⟩
theorem wide_zero : W64 0 := ⟨by omega, by omega⟩
theorem ob0_wide : WideO ob0 := ⟨wide_zero, wide_zero, wide_zero, wide_zero, ⟨by simp [ob0], by simp [ob0]⟩, ⟨by simp [ob0], by simp [ob0]⟩, ⟨by simp [ob0], fun c h => by simp [ob0] at h⟩, ⟨by simp [ob0], by simp [ob0]⟩, ⟨by simp [ob0], by simp [ob0]⟩, ⟨by simp [ob0], by simp [ob0]⟩⟩
def atT (T : TT) (s : List UInt8) : Ob := (T s).getD ob0
def GivR (w : World) (t n : Nat) (T : TT) : Prop := ∃ b V, w.cell? ⟨t, 0, none⟩ = some (.map (some b)) ∧ MapV w b n T V ∧ ∀ s o, T s = some o → WideO o ∧ ObjAt w No (V s) o
theorem GivR.on {w w' : World} {t n : Nat} {T : TT} (h : GivR w t n T) (hb : Below w.heap.size w w') : GivR w' t n T := by
  obtain ⟨b, V, h1, h2, h3⟩ := h
  exact ⟨b, V, (hb.cell (p := ⟨t, 0, none⟩) (World.block_lt_of_cell? w _ h1)).trans h1, h2.on hb, fun s o ho => ⟨(h3 s o ho).1, (h3 s o ho).2.read hb⟩⟩
def RetFind (w : World) (T : TT) (s : List UInt8) (e : Ending) (w' : World) : Prop :=
  Below w.heap.size w w' ∧ ∃ v, e = .returned (.tuple #[v, .bool (T s).isSome]) ∧ ObjAt w' No v (atT T s) ∧ WideO (atT T s)
theorem find_read {w : World} {t n : Nat} {T : TT} {A : Option Addr} {c : Nat} {p : List Int} (he : Env w) (ht : GivR w t n T) (hp : Pa.PL w A c p) (hn : p.length ≤ 10000000) :
    Calls Tryz.prog 75 #[.pointer (some ⟨t, 0, none⟩), .slice A p.length c] w (RetFind w T (Pa.zText p)) := by
  obtain ⟨b, V, h1, h2, h3⟩ := ht
  have ho : ObjAt w No (lookV T V (Pa.zText p)) (atT T (Pa.zText p)) ∧ WideO (atT T (Pa.zText p)) := by
    unfold lookV atT
    cases hT : T (Pa.zText p) with
    | none => exact ⟨ob0_at _ _, ob0_wide⟩
    | some o => exact ⟨(h3 _ o hT).2, (h3 _ o hT).1⟩
  refine (find_any he h1 h2 hp hn ho.1.shape).mono ?_
  rintro e w' ⟨rfl, hb⟩
  exact ⟨hb, _, rfl, ho.1.read hb, ho.2⟩
set_option maxRecDepth 100000 in
theorem place1_any {w : World} {g : Nat} {n : Int} (k : Kd) (hc : w.cell? ⟨g, 0, none⟩ = some (.int .i64 n)) :
    Calls Tryz.prog 119 #[.agg #[.int .i64 k.1, .int .i64 k.2.1, .int .i64 k.2.2], .pointer (some ⟨g, 0, none⟩)] w (RetB w (.bool (decide (k.1 = n)))) := by
  have hne := World.new_ne w ⟨g, 0, none⟩ hc
  have hc2 := fun O => (((Below.refl w.heap.size w).alloc (Nat.le_refl _) O).cell (p := ⟨g, 0, none⟩) (World.block_lt_of_cell? w _ hc)).trans hc
  have hal : Hid (∀ O, Below w.heap.size w (w.alloc O)) := fun O => (Below.refl _ _).alloc (Nat.le_refl _) _
  by_cases h : k.1 = n
  · rw [decide_eq_true h]
    have hq : (k.1 == n) = true := by simpa using h
    clear h
    go_enter Tryz.func119, Tryz.ntmps119
    go_wp2_with fail
    go_ret
    exact ⟨rfl, hal.out _⟩
  · rw [decide_eq_false h]
    have hq : (k.1 == n) = false := by simpa using h
    clear h
    go_enter Tryz.func119, Tryz.ntmps119
    go_wp2_with fail
    go_ret
    exact ⟨rfl, hal.out _⟩
def IxOut (l : List Kd) (n z : Int) : Prop := (z = -1 ∧ ∀ k ∈ l, k.1 ≠ n) ∨ ∃ (m : Nat) (k : Kd), z = (m : Int) ∧ l[m]? = some k ∧ k.1 = n ∧ ∀ x ∈ l.take m, x.1 ≠ n
def IfRel (w : World) (l : List Kd) (n : Int) (k : Nat) (i : Value) (wr : World) : Prop := ∃ m, m + k = l.length ∧ i = .int .i64 (m : Int) ∧ (∀ x ∈ l.take m, x.1 ≠ n) ∧ Below w.heap.size w wr
set_option maxRecDepth 100000 in
set_option maxHeartbeats 1000000 in
theorem indexFunc_any {w : World} {F : Nat → Prop} {v : Value} {l : List Kd} {g : Nat} {n : Int} (hl : SlV w F v l.length (kidCells l)) (hn : l.length ≤ 1048576) (hc : w.cell? ⟨g, 0, none⟩ = some (.int .i64 n)) :
    Calls Tryz.prog 118 #[v, .func (.func 119) #[] #[.pointer (some ⟨g, 0, none⟩)]] w fun e w' => Below w.heap.size w w' ∧ ∃ z, e = .returned (.int .i64 z) ∧ IxOut l n z := by
  obtain ⟨A, c, rfl, -, -, hs⟩ := hl
  have HS := Lib.hid hs
  have HC := Lib.hid hc
  have hg := World.block_lt_of_cell? w _ hc
  clear hs hc
  go_enter Tryz.func118, Tryz.ntmps118
  go_wp2_with fail
  go_loopg [8] l.length (fun k i wr => IfRel w l n k i wr)
  case atStart => exact ⟨0, by simp, rfl, by simp, Below.refl _ _⟩
  case round =>
    obtain ⟨m, hmk, hi, hno, hb⟩ := hrel
    subst hi
    have HNO := Lib.hid hno
    have HB := Lib.hid hb
    cases gk with
    | zero =>
      have hge : l.length ≤ m := by omega
      have HD : Hid (IxOut l n (-1)) := .inl ⟨rfl, fun k hk => HNO.out k (by rw [List.take_of_length_le hge]; exact hk)⟩
      clear hno hb
      go_wp2_with fail
      go_ret
      exact ⟨HB.out, _, rfl, HD.out⟩
    | succ j =>
      have hm : m < l.length := by omega
      obtain ⟨x, hx⟩ : ∃ x, l[m]? = some x := ⟨_, List.getElem?_eq_getElem hm⟩
      obtain ⟨e1, e2, e3⟩ := kidCells_at hx
      obtain ⟨b, of, rfl, -, hltb, hcc⟩ := HS.out (by rw [kidCells_length]; omega)
      have d1 := (hb.cell (p := ⟨b, of + m * 3, none⟩) hltb).trans (hcc _ _ e1)
      have d2 := (hb.cell (p := ⟨b, of + (m * 3 + 1), none⟩) hltb).trans (hcc _ _ e2)
      have d3 := (hb.cell (p := ⟨b, of + (m * 3 + 2), none⟩) hltb).trans (hcc _ _ e3)
      rw [← Nat.add_assoc] at d2 d3
      have H119 := Lib.hid (place1_any (n := n) x ((hb.cell (p := ⟨g, 0, none⟩) hg).trans HC.out))
      have HMK := Lib.hid hmk
      have HX := Lib.hid hx
      clear hno hb hx e1 e2 e3 hcc hmk
      by_cases he : x.1 = n
      · rw [decide_eq_true he] at H119
        have HD : Hid (IxOut l n (m : Int)) := .inr ⟨m, x, rfl, HX.out, he, HNO.out⟩
        clear he
        go_wp2_with fail
        refine H119.out.mono ?_
        rintro e w1 ⟨rfl, hb1⟩
        go_wp2_with fail
        go_ret
        exact ⟨HB.out.trans (hb1.mono HB.out.size), _, rfl, HD.out⟩
      · rw [decide_eq_false he] at H119
        have HN2 : Hid (∀ y ∈ l.take (m + 1), y.1 ≠ n) := fun y hy => by
          rcases (take_mem' HX.out).1 hy with hy | rfl
          · exact HNO.out y hy
          · exact he
        clear he
        go_wp2_with fail
        refine H119.out.mono ?_
        rintro e w1 ⟨rfl, hb1⟩
        have B1 := Lib.hid (HB.out.trans (hb1.mono HB.out.size))
        clear hb1
        go_wp2_with fail
        go_roundg j
        case measure => omega
        case rel => exact ⟨m + 1, by have := HMK.out; omega, by go_num, HN2.out, B1.out⟩
set_option maxRecDepth 100000 in
theorem place_any {w : World} {F : Nat → Prop} {v : Value} {o : Ob} {n : Int} (h : ObjAt w F v o) (hw : WideO o) :
    Calls Tryz.prog 81 #[v, .int .i64 n] w fun e w' => Below w.heap.size w w' ∧ ∃ z, e = .returned (.int .i64 z) ∧ IxOut o.kids n z := by
  obtain ⟨vk, ⟨vl, vb, vo, ve, vm, rfl, -, -, -, -, -⟩, hk⟩ := h
  have hn := hw.kids.1
  obtain ⟨W0, hW0⟩ : ∃ W0, W0 = (w.alloc (.cells #[.int .i64 o.kind, vl, vk, .int .i64 o.next, vb, vo, .int .i64 o.cats, ve, .int .i64 o.ring, vm] 29)).alloc (.cells #[.int .i64 n] 3) := ⟨_, rfl⟩
  have hb0 : Below w.heap.size w W0 := by rw [hW0]; exact ((Below.refl _ _).alloc (Nat.le_refl _) _).alloc (by simp) _
  have HB0 := Lib.hid hb0
  have H118 := Lib.hid (indexFunc_any (n := n) (g := w.heap.size + 1) (hk.on (F' := No) hb0 fun _ _ h => h.elim) hn (by rw [hW0]; simp))
  rw [hW0] at H118
  clear hk hw hb0
  go_enter Tryz.func81, Tryz.ntmps81
  go_wp2_with (first | (go_at_call 118; refine H118.out.mono ?_; rintro e w1 ⟨hb1, z, rfl, hz⟩; have B1 := Lib.hid hb1; have Z1 := Lib.hid hz; clear hb1 hz))
  go_ret
  exact ⟨HB0.out.trans ((show Below W0.heap.size W0 w1 by rw [hW0]; exact B1.out).mono HB0.out.size), _, rfl, Z1.out⟩
end Go.Proofs.YtgcbfggoddkhnaaGreatDoor

namespace Go.Proofs.YtgcbfggoddkhnaaGreatDoor
open Go.RowKit
theorem Tryz.info85 : (Tryz.prog.info? 85).map (fun i => (i.zero, i.size, i.bytes)) = some (some (.agg #[.int .i64 0, .int .i64 0, .int .i64 0]), 3, 24) := by kernel_rfl
theorem Tryz.info45 : (Tryz.prog.info? 45).map (fun i => (i.zero, i.size, i.bytes)) = some (some (.agg #[.int .i64 0, .slice none 0 0, .bool false]), 3, 40) := by kernel_rfl
theorem Tryz.info5x : (Tryz.prog.info? 5).map (fun i => (i.zero, i.size, i.bytes)) = some (some (.int .u8 0), 1, 1) := by kernel_rfl
theorem Tryz.info3x : (Tryz.prog.info? 3).map (fun i => (i.zero, i.size, i.bytes)) = some (some (.int .i64 0), 1, 8) := by kernel_rfl
def RetCells (w : World) (e : TypeId) (size n : Nat) (cs : List Value) (en : Ending) (w' : World) : Prop := Below w.heap.size w w' ∧ ∃ v, en = .returned v ∧ w'.ownsRow w.heap.size e size v n cs
theorem Sl.cells {w : World} {F : Nat → Prop} {a : Addr} {cs : List Value} (h : Sl w F (some a) cs) : ∀ j u, cs[j]? = some u → w.cell? (a.add j) = some u := fun j u hu => by
  obtain ⟨b, o, hA, _, _, hc⟩ := h (by have := (List.getElem?_eq_some_iff.1 hu).1; omega)
  injection hA with hA
  subst hA
  rw [Go.WideShapes.add_plain]
  exact hc j u hu
theorem Sl.none {w : World} {F : Nat → Prop} {cs : List Value} (h : Sl w F none cs) : cs = [] := by
  cases cs with
  | nil => rfl
  | cons x r => obtain ⟨b, o, hA, _⟩ := h (by simp); cases hA
theorem wpList_append_cs {w : World} {ops : Array Oper} {rest : List Oper} {o : Oper} {a : Act} {Q : Exit → Act → World → Prop} (hgd : o.guard = none) (s x : Operand) (t e : TypeId) (ht : Tryz.prog.underlying t = some (.slice e))
    (ho : o.op = .call { callee := .builtin .append, args := #[s, x], argTypes := #[t, t] }) (i0 : TypeInfo) (z : Value) (size bytes : Nat) (hi : Tryz.prog.info? e = some i0) (hz0 : i0.zero = some z) (hz1 : i0.size = size) (hz2 : i0.bytes = bytes) (hzs : z.cells.size = size) (hsz : 0 < size) (hby : bytes ≤ 1000)
    (base : Nat) (v : Value) (k : Nat) (ys : List Value) (hs : a.eval s = v) (hown : w.ownsRow base e size v k ys) (F : Nat → Prop) (A : Option Addr) (n c : Nat) (xs : List Value) (hxe : a.eval x = .slice A n c) (hx : Sl w F A xs) (hl : xs.length = n * size) (h1 : ∀ u ∈ xs, u.oneCell' = true) (hc : A = none → c = 0)
    (hn : k + n ≤ 100000001) (hbase : base ≤ w.heap.size)
    (h : ∀ v' w', w'.ownsRow base e size v' (k + n) (ys ++ xs) → Below base w w' → wpList Tryz.prog ops Q rest (a.put o.dst v') w') : wpList Tryz.prog ops Q (o :: rest) a w := by
  cases A with
  | none =>
    have hx0 := hx.none
    subst hx0
    have hn0 : n = 0 := by
      rcases Nat.eq_zero_or_pos n with h | h
      · exact h
      · have := Nat.mul_pos h hsz
        simp at hl
        omega
    subst hn0
    rw [hc rfl] at hxe
    exact wpList_append_own_none hgd s x t ho base e i0 size ht hi v k _ hs hown hxe (h v w (by simpa using hown) (Below.refl _ _))
  | some ad =>
    refine wpList_append_own w hgd s x t ho base e i0 _ size bytes ht hi hz0 hz1 hz2 hzs hsz v k _ hs hown ad n c xs hxe hl hx.cells h1 (by unfold maxLen; omega) ?_ hbase ?_
    · have := Nat.mul_le_mul hn hby
      omega
    intro v' w' h1 h2 _
    refine h v' w' h1 ((Below.refl base w).grown h2 hbase fun k e => ?_)
    exact (World.ownsRow.lt hown k e).1
set_option maxRecDepth 100000 in
theorem clone39_any {w : World} {F : Nat → Prop} {v : Value} {n : Nat} {cs : List Value} (h : SlV w F v n cs) (hl : cs.length = n * 2) (h1 : ∀ u ∈ cs, u.oneCell' = true) (hn : n ≤ 100000000) :
    Calls Tryz.prog 39 #[v] w (RetCells w 42 2 n cs) := by
  obtain ⟨A, c, rfl, hc, -, hs⟩ := h
  cases A with
  | none =>
    have hl0 := hs.none
    subst hl0
    have hn0 : n = 0 := by simp at hl; omega
    subst hn0
    have hc0 := hc rfl
    subst hc0
    clear hc hs h1 hl
    have hq : ∀ w : World, (binOp .eql 23 (.slice none 0 0) (.slice none 0 0)).run Tryz.prog w = .ok (.bool true) w := fun _ => rfl
    go_enter Tryz.func39, Tryz.ntmps39
    go_wp2_with fail
    go_ret
    exact ⟨Below.refl _ _, _, rfl, World.ownsRow_nil _ _ _ _⟩
  | some a =>
    obtain ⟨i0, hi, hz0, hz1, hz2⟩ := info_parts Tryz.info42
    have HS := Lib.hid hs
    have H1 := Lib.hid h1
    have HL := Lib.hid hl
    clear hs hc h1 hl
    have hq : ∀ w : World, (binOp .eql 23 (.slice (some a) n c) (.slice none 0 0)).run Tryz.prog w = .ok (.bool false) w := fun _ => rfl
    have hr0 : Hid ((w.alloc (.cells #[] 42)).ownsRow w.heap.size 42 2 (.slice (some ⟨w.heap.size, 0, none⟩) 0 0) 0 []) := World.ownsRow_lit (base := w.heap.size) w #[] 0 (Nat.le_refl _) (by unfold maxLen; omega) rfl
    have hal : Hid (Below w.heap.size w (w.alloc (.cells #[] 42))) := (Below.refl _ _).alloc (Nat.le_refl _) _
    have hsz : w.heap.size ≤ (w.alloc (.cells #[] 42)).heap.size := by simp
    go_enter Tryz.func39, Tryz.ntmps39
    go_wp2_with (first
      | (at_builtin; refine wpList_append_cs rfl _ _ 23 42 Tryz.underlying23 rfl i0 _ 2 _ hi hz0 hz1 hz2 rfl (by decide) (by decide) w.heap.size _ 0 [] rfl hr0.out No (some a) n c cs rfl (HS.out.on hal.out (fun _ _ h => h.elim)) HL.out H1.out (fun h => by cases h) (by omega) hsz ?_))
    intro v' w1 hown hb1
    have B1 : Hid (Below w.heap.size w w1) := hal.out.trans hb1
    have R1 : Hid (w1.ownsRow w.heap.size 42 2 v' n cs) := hown
    clear hown hb1 hi hz0 hz1 hz2
    go_wp2_with fail
    go_ret
    exact ⟨B1.out, _, rfl, R1.out⟩
set_option maxRecDepth 100000 in
theorem clone40_any {w : World} {F : Nat → Prop} {v : Value} {n : Nat} {cs : List Value} (h : SlV w F v n cs) (hl : cs.length = n * 3) (h1 : ∀ u ∈ cs, u.oneCell' = true) (hn : n ≤ 100000000) :
    Calls Tryz.prog 40 #[v] w (RetCells w 85 3 n cs) := by
  obtain ⟨A, c, rfl, hc, -, hs⟩ := h
  cases A with
  | none =>
    have hl0 := hs.none
    subst hl0
    have hn0 : n = 0 := by simp at hl; omega
    subst hn0
    have hc0 := hc rfl
    subst hc0
    clear hc hs h1 hl
    have hq : ∀ w : World, (binOp .eql 24 (.slice none 0 0) (.slice none 0 0)).run Tryz.prog w = .ok (.bool true) w := fun _ => rfl
    go_enter Tryz.func40, Tryz.ntmps40
    go_wp2_with fail
    go_ret
    exact ⟨Below.refl _ _, _, rfl, World.ownsRow_nil _ _ _ _⟩
  | some a =>
    obtain ⟨i0, hi, hz0, hz1, hz2⟩ := info_parts Tryz.info85
    have HS := Lib.hid hs
    have H1 := Lib.hid h1
    have HL := Lib.hid hl
    clear hs hc h1 hl
    have hq : ∀ w : World, (binOp .eql 24 (.slice (some a) n c) (.slice none 0 0)).run Tryz.prog w = .ok (.bool false) w := fun _ => rfl
    have hr0 : Hid ((w.alloc (.cells #[] 85)).ownsRow w.heap.size 85 3 (.slice (some ⟨w.heap.size, 0, none⟩) 0 0) 0 []) := World.ownsRow_lit (base := w.heap.size) w #[] 0 (Nat.le_refl _) (by unfold maxLen; omega) rfl
    have hal : Hid (Below w.heap.size w (w.alloc (.cells #[] 85))) := (Below.refl _ _).alloc (Nat.le_refl _) _
    have hsz : w.heap.size ≤ (w.alloc (.cells #[] 85)).heap.size := by simp
    go_enter Tryz.func40, Tryz.ntmps40
    go_wp2_with (first
      | (at_builtin; refine wpList_append_cs rfl _ _ 24 85 Tryz.underlying24 rfl i0 _ 3 _ hi hz0 hz1 hz2 rfl (by decide) (by decide) w.heap.size _ 0 [] rfl hr0.out No (some a) n c cs rfl (HS.out.on hal.out (fun _ _ h => h.elim)) HL.out H1.out (fun h => by cases h) (by omega) hsz ?_))
    intro v' w1 hown hb1
    have B1 : Hid (Below w.heap.size w w1) := hal.out.trans hb1
    have R1 : Hid (w1.ownsRow w.heap.size 85 3 v' n cs) := hown
    clear hown hb1 hi hz0 hz1 hz2
    go_wp2_with fail
    go_ret
    exact ⟨B1.out, _, rfl, R1.out⟩
set_option maxRecDepth 100000 in
theorem clone41_any {w : World} {F : Nat → Prop} {v : Value} {n : Nat} {cs : List Value} (h : SlV w F v n cs) (hl : cs.length = n * 1) (h1 : ∀ u ∈ cs, u.oneCell' = true) (hn : n ≤ 100000000) :
    Calls Tryz.prog 41 #[v] w (RetCells w 5 1 n cs) := by
  obtain ⟨A, c, rfl, hc, -, hs⟩ := h
  cases A with
  | none =>
    have hl0 := hs.none
    subst hl0
    have hn0 : n = 0 := by simp at hl; omega
    subst hn0
    have hc0 := hc rfl
    subst hc0
    clear hc hs h1 hl
    have hq : ∀ w : World, (binOp .eql 25 (.slice none 0 0) (.slice none 0 0)).run Tryz.prog w = .ok (.bool true) w := fun _ => rfl
    go_enter Tryz.func41, Tryz.ntmps41
    go_wp2_with fail
    go_ret
    exact ⟨Below.refl _ _, _, rfl, World.ownsRow_nil _ _ _ _⟩
  | some a =>
    obtain ⟨i0, hi, hz0, hz1, hz2⟩ := info_parts Tryz.info5x
    have HS := Lib.hid hs
    have H1 := Lib.hid h1
    have HL := Lib.hid hl
    clear hs hc h1 hl
    have hq : ∀ w : World, (binOp .eql 25 (.slice (some a) n c) (.slice none 0 0)).run Tryz.prog w = .ok (.bool false) w := fun _ => rfl
    have hr0 : Hid ((w.alloc (.cells #[] 5)).ownsRow w.heap.size 5 1 (.slice (some ⟨w.heap.size, 0, none⟩) 0 0) 0 []) := World.ownsRow_lit (base := w.heap.size) w #[] 0 (Nat.le_refl _) (by unfold maxLen; omega) rfl
    have hal : Hid (Below w.heap.size w (w.alloc (.cells #[] 5))) := (Below.refl _ _).alloc (Nat.le_refl _) _
    have hsz : w.heap.size ≤ (w.alloc (.cells #[] 5)).heap.size := by simp
    go_enter Tryz.func41, Tryz.ntmps41
    go_wp2_with (first
      | (at_builtin; refine wpList_append_cs rfl _ _ 25 5 Tryz.underlying25 rfl i0 _ 1 _ hi hz0 hz1 hz2 rfl (by decide) (by decide) w.heap.size _ 0 [] rfl hr0.out No (some a) n c cs rfl (HS.out.on hal.out (fun _ _ h => h.elim)) HL.out H1.out (fun h => by cases h) (by omega) hsz ?_))
    intro v' w1 hown hb1
    have B1 : Hid (Below w.heap.size w w1) := hal.out.trans hb1
    have R1 : Hid (w1.ownsRow w.heap.size 5 1 v' n cs) := hown
    clear hown hb1 hi hz0 hz1 hz2
    go_wp2_with fail
    go_ret
    exact ⟨B1.out, _, rfl, R1.out⟩
set_option maxRecDepth 100000 in
theorem clone42_any {w : World} {F : Nat → Prop} {v : Value} {n : Nat} {cs : List Value} (h : SlV w F v n cs) (hl : cs.length = n * 1) (h1 : ∀ u ∈ cs, u.oneCell' = true) (hn : n ≤ 100000000) :
    Calls Tryz.prog 42 #[v] w (RetCells w 9 1 n cs) := by
  obtain ⟨A, c, rfl, hc, -, hs⟩ := h
  cases A with
  | none =>
    have hl0 := hs.none
    subst hl0
    have hn0 : n = 0 := by simp at hl; omega
    subst hn0
    have hc0 := hc rfl
    subst hc0
    clear hc hs h1 hl
    have hq : ∀ w : World, (binOp .eql 26 (.slice none 0 0) (.slice none 0 0)).run Tryz.prog w = .ok (.bool true) w := fun _ => rfl
    go_enter Tryz.func42, Tryz.ntmps42
    go_wp2_with fail
    go_ret
    exact ⟨Below.refl _ _, _, rfl, World.ownsRow_nil _ _ _ _⟩
  | some a =>
    obtain ⟨i0, hi, hz0, hz1, hz2⟩ := info_parts Tryz.info9
    have HS := Lib.hid hs
    have H1 := Lib.hid h1
    have HL := Lib.hid hl
    clear hs hc h1 hl
    have hq : ∀ w : World, (binOp .eql 26 (.slice (some a) n c) (.slice none 0 0)).run Tryz.prog w = .ok (.bool false) w := fun _ => rfl
    have hr0 : Hid ((w.alloc (.cells #[] 9)).ownsRow w.heap.size 9 1 (.slice (some ⟨w.heap.size, 0, none⟩) 0 0) 0 []) := World.ownsRow_lit (base := w.heap.size) w #[] 0 (Nat.le_refl _) (by unfold maxLen; omega) rfl
    have hal : Hid (Below w.heap.size w (w.alloc (.cells #[] 9))) := (Below.refl _ _).alloc (Nat.le_refl _) _
    have hsz : w.heap.size ≤ (w.alloc (.cells #[] 9)).heap.size := by simp
    go_enter Tryz.func42, Tryz.ntmps42
    go_wp2_with (first
      | (at_builtin; refine wpList_append_cs rfl _ _ 26 9 Tryz.underlying26 rfl i0 _ 1 _ hi hz0 hz1 hz2 rfl (by decide) (by decide) w.heap.size _ 0 [] rfl hr0.out No (some a) n c cs rfl (HS.out.on hal.out (fun _ _ h => h.elim)) HL.out H1.out (fun h => by cases h) (by omega) hsz ?_))
    intro v' w1 hown hb1
    have B1 : Hid (Below w.heap.size w w1) := hal.out.trans hb1
    have R1 : Hid (w1.ownsRow w.heap.size 9 1 v' n cs) := hown
    clear hown hb1 hi hz0 hz1 hz2
    go_wp2_with fail
    go_ret
    exact ⟨B1.out, _, rfl, R1.out⟩
set_option maxRecDepth 100000 in
theorem clone43_any {w : World} {F : Nat → Prop} {v : Value} {n : Nat} {cs : List Value} (h : SlV w F v n cs) (hl : cs.length = n * 3) (h1 : ∀ u ∈ cs, u.oneCell' = true) (hn : n ≤ 100000000) :
    Calls Tryz.prog 43 #[v] w (RetCells w 45 3 n cs) := by
  obtain ⟨A, c, rfl, hc, -, hs⟩ := h
  cases A with
  | none =>
    have hl0 := hs.none
    subst hl0
    have hn0 : n = 0 := by simp at hl; omega
    subst hn0
    have hc0 := hc rfl
    subst hc0
    clear hc hs h1 hl
    have hq : ∀ w : World, (binOp .eql 27 (.slice none 0 0) (.slice none 0 0)).run Tryz.prog w = .ok (.bool true) w := fun _ => rfl
    go_enter Tryz.func43, Tryz.ntmps43
    go_wp2_with fail
    go_ret
    exact ⟨Below.refl _ _, _, rfl, World.ownsRow_nil _ _ _ _⟩
  | some a =>
    obtain ⟨i0, hi, hz0, hz1, hz2⟩ := info_parts Tryz.info45
    have HS := Lib.hid hs
    have H1 := Lib.hid h1
    have HL := Lib.hid hl
    clear hs hc h1 hl
    have hq : ∀ w : World, (binOp .eql 27 (.slice (some a) n c) (.slice none 0 0)).run Tryz.prog w = .ok (.bool false) w := fun _ => rfl
    have hr0 : Hid ((w.alloc (.cells #[] 45)).ownsRow w.heap.size 45 3 (.slice (some ⟨w.heap.size, 0, none⟩) 0 0) 0 []) := World.ownsRow_lit (base := w.heap.size) w #[] 0 (Nat.le_refl _) (by unfold maxLen; omega) rfl
    have hal : Hid (Below w.heap.size w (w.alloc (.cells #[] 45))) := (Below.refl _ _).alloc (Nat.le_refl _) _
    have hsz : w.heap.size ≤ (w.alloc (.cells #[] 45)).heap.size := by simp
    go_enter Tryz.func43, Tryz.ntmps43
    go_wp2_with (first
      | (at_builtin; refine wpList_append_cs rfl _ _ 27 45 Tryz.underlying27 rfl i0 _ 3 _ hi hz0 hz1 hz2 rfl (by decide) (by decide) w.heap.size _ 0 [] rfl hr0.out No (some a) n c cs rfl (HS.out.on hal.out (fun _ _ h => h.elim)) HL.out H1.out (fun h => by cases h) (by omega) hsz ?_))
    intro v' w1 hown hb1
    have B1 : Hid (Below w.heap.size w w1) := hal.out.trans hb1
    have R1 : Hid (w1.ownsRow w.heap.size 45 3 v' n cs) := hown
    clear hown hb1 hi hz0 hz1 hz2
    go_wp2_with fail
    go_ret
    exact ⟨B1.out, _, rfl, R1.out⟩
set_option maxRecDepth 100000 in
theorem clone44_any {w : World} {F : Nat → Prop} {v : Value} {n : Nat} {cs : List Value} (h : SlV w F v n cs) (hl : cs.length = n * 1) (h1 : ∀ u ∈ cs, u.oneCell' = true) (hn : n ≤ 100000000) :
    Calls Tryz.prog 44 #[v] w (RetCells w 3 1 n cs) := by
  obtain ⟨A, c, rfl, hc, -, hs⟩ := h
  cases A with
  | none =>
    have hl0 := hs.none
    subst hl0
    have hn0 : n = 0 := by simp at hl; omega
    subst hn0
    have hc0 := hc rfl
    subst hc0
    clear hc hs h1 hl
    have hq : ∀ w : World, (binOp .eql 43 (.slice none 0 0) (.slice none 0 0)).run Tryz.prog w = .ok (.bool true) w := fun _ => rfl
    go_enter Tryz.func44, Tryz.ntmps44
    go_wp2_with fail
    go_ret
    exact ⟨Below.refl _ _, _, rfl, World.ownsRow_nil _ _ _ _⟩
  | some a =>
    obtain ⟨i0, hi, hz0, hz1, hz2⟩ := info_parts Tryz.info3x
    have HS := Lib.hid hs
    have H1 := Lib.hid h1
    have HL := Lib.hid hl
    clear hs hc h1 hl
    have hq : ∀ w : World, (binOp .eql 43 (.slice (some a) n c) (.slice none 0 0)).run Tryz.prog w = .ok (.bool false) w := fun _ => rfl
    have hr0 : Hid ((w.alloc (.cells #[] 3)).ownsRow w.heap.size 3 1 (.slice (some ⟨w.heap.size, 0, none⟩) 0 0) 0 []) := World.ownsRow_lit (base := w.heap.size) w #[] 0 (Nat.le_refl _) (by unfold maxLen; omega) rfl
    have hal : Hid (Below w.heap.size w (w.alloc (.cells #[] 3))) := (Below.refl _ _).alloc (Nat.le_refl _) _
    have hsz : w.heap.size ≤ (w.alloc (.cells #[] 3)).heap.size := by simp
    go_enter Tryz.func44, Tryz.ntmps44
    go_wp2_with (first
      | (at_builtin; refine wpList_append_cs rfl _ _ 43 3 Tryz.underlying43 rfl i0 _ 1 _ hi hz0 hz1 hz2 rfl (by decide) (by decide) w.heap.size _ 0 [] rfl hr0.out No (some a) n c cs rfl (HS.out.on hal.out (fun _ _ h => h.elim)) HL.out H1.out (fun h => by cases h) (by omega) hsz ?_))
    intro v' w1 hown hb1
    have B1 : Hid (Below w.heap.size w w1) := hal.out.trans hb1
    have R1 : Hid (w1.ownsRow w.heap.size 3 1 v' n cs) := hown
    clear hown hb1 hi hz0 hz1 hz2
    go_wp2_with fail
    go_ret
    exact ⟨B1.out, _, rfl, R1.out⟩
set_option maxRecDepth 100000 in
theorem clone57_any {w : World} {F : Nat → Prop} {v : Value} {n : Nat} {cs : List Value} (h : SlV w F v n cs) (hl : cs.length = n * 1) (h1 : ∀ u ∈ cs, u.oneCell' = true) (hn : n ≤ 100000000) :
    Calls Tryz.prog 57 #[v] w (RetCells w 5 1 n cs) := by
  obtain ⟨A, c, rfl, hc, -, hs⟩ := h
  cases A with
  | none =>
    have hl0 := hs.none
    subst hl0
    have hn0 : n = 0 := by simp at hl; omega
    subst hn0
    have hc0 := hc rfl
    subst hc0
    clear hc hs h1 hl
    have hq : ∀ w : World, (binOp .eql 25 (.slice none 0 0) (.slice none 0 0)).run Tryz.prog w = .ok (.bool true) w := fun _ => rfl
    go_enter Tryz.func57, Tryz.ntmps57
    go_wp2_with fail
    go_ret
    exact ⟨Below.refl _ _, _, rfl, World.ownsRow_nil _ _ _ _⟩
  | some a =>
    obtain ⟨i0, hi, hz0, hz1, hz2⟩ := info_parts Tryz.info5x
    have HS := Lib.hid hs
    have H1 := Lib.hid h1
    have HL := Lib.hid hl
    clear hs hc h1 hl
    have hq : ∀ w : World, (binOp .eql 25 (.slice (some a) n c) (.slice none 0 0)).run Tryz.prog w = .ok (.bool false) w := fun _ => rfl
    have hr0 : Hid ((w.alloc (.cells #[] 5)).ownsRow w.heap.size 5 1 (.slice (some ⟨w.heap.size, 0, none⟩) 0 0) 0 []) := World.ownsRow_lit (base := w.heap.size) w #[] 0 (Nat.le_refl _) (by unfold maxLen; omega) rfl
    have hal : Hid (Below w.heap.size w (w.alloc (.cells #[] 5))) := (Below.refl _ _).alloc (Nat.le_refl _) _
    have hsz : w.heap.size ≤ (w.alloc (.cells #[] 5)).heap.size := by simp
    go_enter Tryz.func57, Tryz.ntmps57
    go_wp2_with (first
      | (at_builtin; refine wpList_append_cs rfl _ _ 25 5 Tryz.underlying25 rfl i0 _ 1 _ hi hz0 hz1 hz2 rfl (by decide) (by decide) w.heap.size _ 0 [] rfl hr0.out No (some a) n c cs rfl (HS.out.on hal.out (fun _ _ h => h.elim)) HL.out H1.out (fun h => by cases h) (by omega) hsz ?_))
    intro v' w1 hown hb1
    have B1 : Hid (Below w.heap.size w w1) := hal.out.trans hb1
    have R1 : Hid (w1.ownsRow w.heap.size 5 1 v' n cs) := hown
    clear hown hb1 hi hz0 hz1 hz2
    go_wp2_with fail
    go_ret
    exact ⟨B1.out, _, rfl, R1.out⟩
end Go.Proofs.YtgcbfggoddkhnaaGreatDoor

namespace Go.Proofs.YtgcbfggoddkhnaaGreatDoor
open Go.RowKit
def mapCells : List Mp → List Value → List Value
  | m :: r, s :: t => .int .i64 m.1 :: s :: .bool m.2.2 :: mapCells r t
  | _, _ => []
theorem mapCells_length : ∀ {ms : List Mp} {ss : List Value}, ss.length = ms.length → (mapCells ms ss).length = ms.length * 3
  | [], [], _ => rfl
  | m :: r, s :: t, h => by
    have := mapCells_length (ms := r) (ss := t) (by simpa using h)
    simp [mapCells, this]
    omega
  | [], s :: t, h => by simp at h
  | m :: r, [], h => by simp at h
theorem mapCells_at : ∀ {ms : List Mp} {ss : List Value} {k : Nat} {m : Mp} {s : Value}, ms[k]? = some m → ss[k]? = some s →
    (mapCells ms ss)[k * 3]? = some (.int .i64 m.1) ∧ (mapCells ms ss)[k * 3 + 1]? = some s ∧ (mapCells ms ss)[k * 3 + 2]? = some (.bool m.2.2)
  | [], _, k, m, s, h, _ => by simp at h
  | x :: r, [], k, m, s, _, h => by simp at h
  | x :: r, y :: t, k, m, s, h1, h2 => by
    cases k with
    | zero => simp at h1 h2; subst h1 h2; simp [mapCells]
    | succ k =>
      have := mapCells_at (ms := r) (ss := t) (k := k) (m := m) (s := s) (by simpa using h1) (by simpa using h2)
      rw [show (k + 1) * 3 = k * 3 + 1 + 1 + 1 by omega]
      simpa [mapCells] using this
theorem mapCells_get : ∀ {ms : List Mp} {ss : List Value} {j : Nat} {u : Value}, (mapCells ms ss)[j]? = some u →
    ∃ (k : Nat) (m : Mp) (s : Value), ms[k]? = some m ∧ ss[k]? = some s ∧ ((j = k * 3 ∧ u = .int .i64 m.1) ∨ (j = k * 3 + 1 ∧ u = s) ∨ (j = k * 3 + 2 ∧ u = .bool m.2.2))
  | [], [], j, u, h => by simp [mapCells] at h
  | [], _ :: _, j, u, h => by simp [mapCells] at h
  | _ :: _, [], j, u, h => by simp [mapCells] at h
  | x :: r, y :: t, j, u, h => by
    match j, h with
    | 0, h => simp [mapCells] at h; exact ⟨0, x, y, rfl, rfl, .inl ⟨rfl, h.symm⟩⟩
    | 1, h => simp [mapCells] at h; exact ⟨0, x, y, rfl, rfl, .inr (.inl ⟨rfl, h.symm⟩)⟩
    | 2, h => simp [mapCells] at h; exact ⟨0, x, y, rfl, rfl, .inr (.inr ⟨rfl, h.symm⟩)⟩
    | j + 3, h =>
      obtain ⟨k, m, s, h1, h2, h3⟩ := mapCells_get (ms := r) (ss := t) (j := j) (u := u) (by simpa [mapCells] using h)
      refine ⟨k + 1, m, s, by simpa using h1, by simpa using h2, ?_⟩
      rcases h3 with ⟨rfl, e⟩ | ⟨rfl, e⟩ | ⟨rfl, e⟩
      · exact .inl ⟨by omega, e⟩
      · exact .inr (.inl ⟨by omega, e⟩)
      · exact .inr (.inr ⟨by omega, e⟩)
theorem mapCells_set : ∀ {ms : List Mp} {ss : List Value} (k : Nat) (s : Value), k < ss.length → k < ms.length → (mapCells ms ss).set (k * 3 + 1) s = mapCells ms (ss.set k s)
  | [], _, k, s, _, h => by simp at h
  | _ :: _, [], k, s, h, _ => by simp at h
  | x :: r, y :: t, k, s, h1, h2 => by
    cases k with
    | zero => simp [mapCells]
    | succ k =>
      have := mapCells_set (ms := r) (ss := t) k s (by simpa using h1) (by simpa using h2)
      rw [show (k + 1) * 3 + 1 = k * 3 + 1 + 1 + 1 + 1 by omega]
      simp [mapCells, this]
def SegsV (w : World) (F : Nat → Prop) (ms : List Mp) (ss : List Value) : Prop := ss.length = ms.length ∧ ∀ (k : Nat) (m : Mp) (s : Value), ms[k]? = some m → ss[k]? = some s → SlV w F s m.2.1.length (Pa.zCellsOf m.2.1)
theorem mapCells_one {w : World} {F : Nat → Prop} {ms : List Mp} {ss : List Value} (h : SegsV w F ms ss) : ∀ u ∈ mapCells ms ss, u.oneCell' = true := by
  intro u hu
  obtain ⟨j, hj⟩ := List.mem_iff_getElem?.1 hu
  obtain ⟨k, m, s, h1, h2, ⟨_, rfl⟩ | ⟨_, rfl⟩ | ⟨_, rfl⟩⟩ := mapCells_get hj
  · rfl
  · obtain ⟨A, c, rfl, _⟩ := h.2 k m u h1 h2
    rfl
  · rfl
theorem MapsV.cells {w : World} {F : Nat → Prop} {v : Value} {ms : List Mp} (h : MapsV w F v ms) : ∃ ss, SegsV w F ms ss ∧ SlV w F v ms.length (mapCells ms ss) := by
  obtain ⟨A, c, rfl, h2, h3, h4⟩ := h
  by_cases hp : 0 < ms.length
  · obtain ⟨b, o, hA, hb, hlt, hc⟩ := h4 hp
    obtain ⟨ss, hss⟩ : ∃ ss, ss = (List.range ms.length).map fun k => (w.cell? ⟨b, o + k * 3 + 1, none⟩).getD undef := ⟨_, rfl⟩
    have hlen : ss.length = ms.length := by rw [hss]; simp
    have hat : ∀ (k : Nat) (s : Value), ss[k]? = some s → ∃ m, ms[k]? = some m ∧ w.cell? ⟨b, o + k * 3 + 1, none⟩ = some s ∧ SlV w F s m.2.1.length (Pa.zCellsOf m.2.1) := by
      intro k s hk
      have hkl : k < ms.length := by have := (List.getElem?_eq_some_iff.1 hk).1; omega
      obtain ⟨m, hm⟩ : ∃ m, ms[k]? = some m := ⟨_, List.getElem?_eq_getElem hkl⟩
      obtain ⟨_, ⟨s', c2, hs'⟩, _⟩ := hc k m hm
      rw [hss] at hk
      simp [hkl, c2] at hk
      subst hk
      exact ⟨m, hm, c2, hs'⟩
    refine ⟨ss, ⟨hlen, fun k m s hm hs => ?_⟩, A, c, rfl, h2, h3, fun _ => ⟨b, o, hA, hb, hlt, fun j u hj => ?_⟩⟩
    · obtain ⟨m', hm', _, h⟩ := hat k s hs
      rw [hm] at hm'
      cases hm'
      exact h
    · obtain ⟨k, m, s, h1, h2, h3⟩ := mapCells_get hj
      obtain ⟨c1, _, c3⟩ := hc k m h1
      rcases h3 with ⟨rfl, rfl⟩ | ⟨rfl, rfl⟩ | ⟨rfl, rfl⟩
      · exact c1
      · obtain ⟨_, _, h, _⟩ := hat k u h2
        rw [← Nat.add_assoc]
        exact h
      · rw [← Nat.add_assoc]
        exact c3
  · have : ms = [] := List.eq_nil_of_length_eq_zero (by omega)
    subst this
    exact ⟨[], ⟨rfl, fun k m s h => by simp at h⟩, A, c, rfl, h2, h3, fun h => absurd h (by simp [mapCells])⟩
theorem mapsV_of {w : World} {F : Nat → Prop} {v : Value} {ms : List Mp} {ss : List Value} (h : SegsV w F ms ss) (hv : SlV w F v ms.length (mapCells ms ss)) : MapsV w F v ms := by
  obtain ⟨A, c, rfl, h2, h3, h4⟩ := hv
  refine ⟨A, c, rfl, h2, h3, fun hp => ?_⟩
  obtain ⟨b, o, hA, hb, hlt, hc⟩ := h4 (by rw [mapCells_length h.1]; omega)
  refine ⟨b, o, hA, hb, hlt, fun k m hm => ?_⟩
  have hkl : k < ss.length := by have := (List.getElem?_eq_some_iff.1 hm).1; rw [h.1]; exact this
  obtain ⟨s, hs⟩ : ∃ s, ss[k]? = some s := ⟨_, List.getElem?_eq_getElem hkl⟩
  obtain ⟨e1, e2, e3⟩ := mapCells_at hm hs
  exact ⟨hc _ _ e1, ⟨s, by rw [Nat.add_assoc]; exact hc _ _ e2, h.2 k m s hm hs⟩, by rw [Nat.add_assoc]; exact hc _ _ e3⟩
theorem SegsV.kp {S F F' : Nat → Prop} {w w' : World} {ms : List Mp} {ss : List Value} (h : SegsV w F ms ss) (hk : Tp.Kp S w w') (hS : ∀ b, b < w.heap.size → S b → F b) (hF : ∀ b, b < w.heap.size → F' b → F b) : SegsV w' F' ms ss :=
  ⟨h.1, fun k m s h1 h2 => (h.2 k m s h1 h2).kp hk hS hF⟩
theorem own_kp {S : Nat → Prop} {w w' : World} {base : Nat} {e : TypeId} {size : Nat} {v : Value} {n : Nat} {xs : List Value} (h : w.ownsRow base e size v n xs) (hk : Tp.Kp S w w') (hS : ∀ j, v.ownBlock = some j → ¬ S j) : w'.ownsRow base e size v n xs := by
  refine ⟨h.1, ?_⟩
  rcases h.2 with h2 | ⟨g, cap, cur, hv, hb, hh, hr⟩
  · exact .inl h2
  · have hlt := h.lt g (by rw [hv]; rfl)
    exact .inr ⟨g, cap, cur, hv, hb, (hk.block g hlt.2 (hS g (by rw [hv]; rfl))).trans hh, hr⟩
theorem own_on {w w' : World} {base : Nat} {e : TypeId} {size : Nat} {v : Value} {n : Nat} {xs : List Value} (h : w.ownsRow base e size v n xs) (hb : Below w.heap.size w w') : w'.ownsRow base e size v n xs := own_kp h (Tp.Kp.of_below hb fun _ => False) fun _ _ h => h
theorem own_base {w : World} {base base' : Nat} {e : TypeId} {size : Nat} {v : Value} {n : Nat} {xs : List Value} (h : w.ownsRow base e size v n xs) (hb : base' ≤ base) : w.ownsRow base' e size v n xs := by
  refine ⟨h.1, ?_⟩
  rcases h.2 with h2 | ⟨g, cap, cur, hv, hbb, hh, hr⟩
  · exact .inl h2
  · exact .inr ⟨g, cap, cur, hv, Nat.le_trans hb hbb, hh, hr⟩
end Go.Proofs.YtgcbfggoddkhnaaGreatDoor
