/- A map of texts to levels, as the levels that it holds; its keys, collected. -/
import Derived.Test.YtpokdihnimlgkaaGreatDoorIt
import Derived.Test.YtpokdihnimlgkaaGreatDoorLm
import Derived.Maps.OwnSet
import Derived.Maps.OwnOps
namespace Go.Proofs.YtpokdihnimlgkaaGreatDoor
open Go.RowKit

/-- Block b holds a map; it has just the texts whose level is not 1, each with its level. -/
def LevIs (w : World) (b n : Nat) (f : List UInt8 → Int) : Prop :=
  ∃ D : DataW Unit, w.ownsMap Tryz.prog 9 (plainElem Tryz.prog 3) b n D ∧ ∀ x : List UInt8, (f x = 1 ∧ Maps.has D (.string x) = false) ∨ (f x ≠ 1 ∧ ∀ z, D.atKey (.string x) z = .lit (.int .i64 (f x)))
theorem LevIs.lt {w : World} {b n : Nat} {f : List UInt8 → Int} (h : LevIs w b n f) : b < w.heap.size := by
  obtain ⟨D, h, _⟩ := h
  exact h.lt
theorem LevIs.below {w w' : World} {b n : Nat} {f : List UInt8 → Int} (h : LevIs w b n f) (hb : Below w.heap.size w w') : LevIs w' b n f := by
  have hlt := h.lt
  obtain ⟨D, ⟨es, clock, h1, h2⟩, h3⟩ := h
  exact ⟨D, ⟨es, clock, (hb.block b hlt).trans h1, h2⟩, h3⟩
theorem LevIs.made (w : World) : LevIs (w.alloc (.map #[] 0)) w.heap.size 0 (last []) :=
  ⟨.map [], World.ownsMap_made w _ _ _, fun _ => .inl ⟨rfl, rfl⟩⟩
theorem key9 {x : List UInt8} (hx : x.length ≤ 140737488351232) : keyOf Tryz.prog 9 (.string (str x)) = some (.string x) := by
  rw [keyOf_string Tryz.underlying9]
  have h : (str x).size ≤ maxLen := by rw [str_size]; unfold maxLen; omega
  unfold mapKey
  rw [Tryz.underlying9]
  simp only [h, if_true, str_list]
theorem zero3 (w : World) : (zeroValue 3).run Tryz.prog w = .ok (.int .i64 0) w := Tryz.zeroValue3 w
set_option maxRecDepth 100000 in
theorem LevIs.look {w : World} {b n : Nat} {f : List UInt8 → Int} (h : LevIs w b n f) {x : List UInt8} (hx : x.length ≤ 140737488351232) (hf : f x ≠ 1) : (Instr.lookup 52 (.map (some b)) (.string (str x)) false).run Tryz.prog w = .ok (.int .i64 (f x)) w := by
  obtain ⟨D, h, h3⟩ := h
  obtain ⟨c, hrun, hat, _⟩ := h.lookup_int (Maps.string_keyed Tryz.underlying9) Tryz.underlying52 Tryz.underlying3 (zero3 w) (key9 hx)
  rcases h3 x with ⟨h4, _⟩ | ⟨_, h4⟩
  · exact absurd h4 hf
  · rw [h4] at hat
    have hc : f x = c := by injection hat with e; injection e
    rw [hrun, hc]

/-- levels[s] = v -/
theorem wpList_put_lev {w : World} {ops : Array Oper} {rest : List Oper} {o : Oper} {a : Act} {Q : Exit → Act → World → Prop} (hg : o.guard = none) (m x v : Operand) (hop : o.op = Op.mapUpdate 52 m x v)
    (b n : Nat) (l : List Ent) (hm : a.eval m = .map (some b)) (h : LevIs w b n (last l)) (hn : n ≤ 1000000) (s : List UInt8) (z : Int) (hsl : s.length ≤ 140737488351232) (hz : 0 ≤ z ∧ z ≤ 3) (hz1 : z ≠ 1) (hx : a.eval x = .string (str s)) (hv : a.eval v = .int .i64 z)
    (hK : ∀ w', LevIs w' b (n + 1) (last (l ++ [(s, z)])) → w.grownBy w' (some b) → wpList Tryz.prog ops Q rest (a.put o.dst undef) w') : wpList Tryz.prog ops Q (o :: rest) a w := by
  obtain ⟨D, h, h3⟩ := h
  refine wpList_mapUpdate_own w hg m x v 52 hop 9 3 (Maps.string_keyed Tryz.underlying9) Tryz.underlying52 _ b n D hm h (by unfold maxLen; omega) _ _ _ hx hv (key9 hsl) _ [] (plainElem_int Tryz.underlying3 (WalkArith.wf_i64 (by omega))) ?_
  intro w' h1 h2
  refine hK w' ⟨_, h1, fun y => ?_⟩ h2
  rw [last_snoc]
  by_cases e : s = y
  · subst e
    rw [if_pos rfl]
    exact .inr ⟨hz1, fun d => Maps.atKey_put_same h.isMap (by simp [WideAt.IsKeyLit]) _ _⟩
  · rw [if_neg e]
    have hne : (Lit.string y) ≠ .string s := fun h => e (by injection h with h; exact h.symm)
    rcases h3 y with ⟨h4, h5⟩ | ⟨h4, h5⟩
    · exact .inl ⟨h4, by rw [Maps.has_put_other hne, h5]⟩
    · exact .inr ⟨h4, fun d => by rw [Maps.atKey_put_other hne, h5]⟩

/-- delete(levels, s) -/
theorem wpList_del_lev {w : World} {ops : Array Oper} {rest : List Oper} {o : Oper} {a : Act} {Q : Exit → Act → World → Prop} (hg : o.guard = none) (m x : Operand) (hop : o.op = Op.call { callee := Callee.builtin Builtin.delete, args := #[m, x], argTypes := #[52, 9] })
    (b n : Nat) (l : List Ent) (hm : a.eval m = .map (some b)) (h : LevIs w b n (last l)) (s : List UInt8) (hsl : s.length ≤ 140737488351232) (hx : a.eval x = .string (str s))
    (hK : ∀ w', LevIs w' b n (last (l ++ [(s, 1)])) → w.grownBy w' (some b) → wpList Tryz.prog ops Q rest (a.put o.dst (.tuple #[])) w') : wpList Tryz.prog ops Q (o :: rest) a w := by
  obtain ⟨D, h, h3⟩ := h
  refine wpList_delete_own w hg m x 52 9 hop 3 (Maps.string_keyed Tryz.underlying9) Tryz.underlying52 _ b n D hm h _ _ hx (key9 hsl) ?_
  intro w' h1 h2
  refine hK w' ⟨_, h1, fun y => ?_⟩ h2.grown
  rw [last_snoc]
  by_cases e : s = y
  · subst e
    rw [if_pos rfl]
    exact .inl ⟨rfl, Maps.has_del_same⟩
  · rw [if_neg e]
    have hne : (Lit.string y) ≠ .string s := fun h => e (by injection h with h; exact h.symm)
    rcases h3 y with ⟨h4, h5⟩ | ⟨h4, h5⟩
    · exact .inl ⟨h4, by rw [Maps.has_del_other hne, h5]⟩
    · exact .inr ⟨h4, fun d => by rw [Maps.atKey_del_other hne, h5]⟩

/-- A map's keys: each once, just those whose level is not 1. -/
theorem keys_facts {w : World} {b n : Nat} {D : DataW Unit} {R : Value → Option (DataW Unit × List MemPlace)} (hown : w.ownsMap Tryz.prog 9 R b n D) :
    (strKeys D).Nodup ∧ (∀ x, x ∈ strKeys D ↔ Maps.has D (.string x) = true) ∧ (strKeys D).length = Maps.size D := by
  obtain ⟨es, hD, hpw, _⟩ := hown.entries (Maps.string_keyed Tryz.underlying9)
  obtain ⟨es', hD', hko⟩ := hown.keysOf
  obtain rfl : es = es' := by rw [hD] at hD'; simpa using hD'
  subst hD
  have hk : ∀ p ∈ es, ∃ x, p.1 = .string x := fun p hp => by
    obtain ⟨v, hv⟩ := hko p hp
    obtain ⟨x, _, hx, _⟩ := Maps.keyOf_str Tryz.underlying9 hv
    exact ⟨x, hx⟩
  refine ⟨?_, fun x => ?_, by simp [strKeys, Maps.size]⟩
  · refine List.pairwise_map.2 (hpw.imp_of_mem fun {p q} hp hq hne e => hne ?_)
    obtain ⟨a, ha⟩ := hk p hp
    obtain ⟨c, hc⟩ := hk q hq
    rw [ha, hc] at e ⊢
    exact congrArg _ e
  · rw [Maps.has_eq, List.any_eq_true]
    simp only [strKeys, List.mem_map]
    constructor
    · rintro ⟨p, hp, rfl⟩
      obtain ⟨a, ha⟩ := hk p hp
      exact ⟨p, hp, by rw [ha]; simp [Lit.sameKey, strOf]⟩
    · rintro ⟨p, hp, hs⟩
      obtain ⟨a, ha⟩ := hk p hp
      rw [ha] at hs
      exact ⟨p, hp, by rw [ha]; simpa [Lit.sameKey, strOf] using hs⟩
/-- The texts whose level is not 1. -/
def KeysAre (f : List UInt8 → Int) (ks : List (List UInt8)) : Prop := ks.Nodup ∧ ∀ x, x ∈ ks ↔ f x ≠ 1
theorem KeysAre.length {f : List UInt8 → Int} {ks ks' : List (List UInt8)} (h : KeysAre f ks) (h' : KeysAre f ks') : ks.length = ks'.length :=
  ((List.perm_ext_iff_of_nodup h.1 h'.1).2 fun x => (h.2 x).trans (h'.2 x).symm).length_eq
theorem keysAre_of {w : World} {b n : Nat} {D : DataW Unit} {f : List UInt8 → Int} (hown : w.ownsMap Tryz.prog 9 (plainElem Tryz.prog 3) b n D)
    (h : ∀ x : List UInt8, (f x = 1 ∧ Maps.has D (.string x) = false) ∨ (f x ≠ 1 ∧ ∀ z, D.atKey (.string x) z = .lit (.int .i64 (f x)))) : KeysAre f (strKeys D) := by
  obtain ⟨h1, h2, _⟩ := keys_facts hown
  refine ⟨h1, fun x => ?_⟩
  rw [h2]
  rcases h x with ⟨h4, h5⟩ | ⟨h4, h5⟩
  · rw [h5]; simp [h4]
  · rw [Maps.has_true_of_atKey h5]; simp [h4]
/-- len(levels) -/
theorem LevIs.size {w : World} {b n : Nat} {f : List UInt8 → Int} (h : LevIs w b n f) : ∃ ks, KeysAre f ks ∧ ks.length ≤ n ∧ ∀ ty, (Builtin.len_ #[52] ty #[.map (some b)]).run Tryz.prog w = .ok (.int .i64 (ks.length : Int)) w := by
  obtain ⟨D, h, h3⟩ := h
  have e := (keys_facts h).2.2
  have hs := h.size_le
  refine ⟨_, keysAre_of h h3, by rw [e]; exact hs, fun ty => ?_⟩
  rw [e]
  exact h.len Tryz.underlying52 ty

theorem keys_any (mb : Option Nat) (w : World) : Calls Tryz.prog 33 #[.map mb] w fun e w' => e = .returned (.func (.func 58) #[] #[.pointer (some ⟨w.heap.size, 0, none⟩)]) ∧ w' = w.alloc (.cells #[.map mb] 52) :=
  callsIn_wide.1 (AnyZ.keys_in Tryz.keysA Fence.wide 5 trivial rfl mb w)
set_option maxHeartbeats 1000000 in
theorem collect_any {w : World} {b n : Nat} {f : List UInt8 → Int} (h : LevIs w b n f) (hn : n ≤ 1000000) :
    Calls Tryz.prog 32 #[.func (.func 58) #[] #[.pointer (some ⟨w.heap.size, 0, none⟩)]] (w.alloc (.cells #[.map (some b)] 52)) fun e w' => ∃ v ks, e = .returned v ∧ KeysAre f ks ∧ StrRow w' (w.heap.size + 1) v ks ∧ ks.length ≤ n ∧ Below (w.heap.size + 1) (w.alloc (.cells #[.map (some b)] 52)) w' := by
  obtain ⟨D0, hown, h3⟩ := h
  have hbl := hown.lt
  have hs := hown.size_le
  have hk := keysAre_of hown h3
  have hkl := (keys_facts hown).2.2
  have hseq : SeqGives Fence.wide 2 Tryz.prog 58 #[.pointer (some ⟨w.heap.size, 0, none⟩)] encStr (fun ss => ss.Perm (strKeys D0)) (Maps.size D0) (w.alloc (.cells #[.map (some b)] 52)) :=
    AnyZ.keys_gives (ρ := Tryz.keysA_ren) { Tryz.keysA with } Fence.wide _ trivial rfl (by omega) w.heap.size b n D0 _ (by simp) (by simp) (hown.alloc _)
  refine Calls.mono (callsIn_wide.1 (AnyZ.collect_in Tryz.collectA Fence.wide 4 trivial trivial rfl (by omega) 58 #[.pointer (some ⟨w.heap.size, 0, none⟩)] trivial (enters_of Tryz.func58 (by kernel_rfl) rfl) _ _ (by unfold maxLen; omega) (by omega) _ hseq)) ?_
  rintro e w' ⟨v, ss, rfl, hS, hrow, _, hb⟩
  rw [World.size_alloc] at hrow hb
  exact ⟨v, ss, rfl, ⟨(hS.nodup_iff).2 hk.1, fun x => (hS.mem_iff).trans (hk.2 x)⟩, hrow, by rw [hS.length_eq, hkl]; exact hs, hb⟩

/-- The label with these levels, where the texts whose level is not 1 are known. -/
theorem labs_exists {f : List UInt8 → Int} {ks : List (List UInt8)} (h : KeysAre f ks) : ∃ m, Labs f m ∧ m.length = ks.length := by
  obtain ⟨R, hR, hp⟩ : ∃ R, Rises cmpC R ∧ R.Perm ks := by
    refine ⟨ks.mergeSort fun x y => decide (cmpC x y ≤ 0), ?_, List.mergeSort_perm _ _⟩
    have hw := List.pairwise_mergeSort (le := fun x y => decide (cmpC x y ≤ 0)) (fun a b c h1 h2 => by
      simp only [decide_eq_true_eq] at *
      exact tot_cmpC.trans a b c h1 h2) (fun a b => by
      have := tot_cmpC.neg a b
      simp
      omega) ks
    have hn : (ks.mergeSort fun x y => decide (cmpC x y ≤ 0)).Nodup := (List.mergeSort_perm _ _).nodup_iff.2 h.1
    refine (hw.and hn).imp fun {x y} hxy => ?_
    have h1 : cmpC x y ≤ 0 := by simpa using hxy.1
    have h2 := tot_cmpC.one x y
    have h3 : cmpC x y ≠ 0 := fun e => hxy.2 ((tot_cmpC.eq x y).1 e)
    omega
  have hkeys : keys (R.map fun c => (c, f c)) = R := by simp [keys, Function.comp_def]
  refine ⟨R.map fun c => (c, f c), ⟨by rw [hkeys]; exact hR, fun c => by rw [hkeys, hp.mem_iff]; exact h.2 c, fun e he => ?_⟩, by simp [hp.length_eq]⟩
  obtain ⟨c, _, rfl⟩ := List.mem_map.1 he
  rfl
theorem labs_rises {f : List UInt8 → Int} {R : List (List UInt8)} (hR : Rises cmpC R) (h : ∀ x, x ∈ R ↔ f x ≠ 1) : Labs f (R.map fun c => (c, f c)) := by
  have hkeys : keys (R.map fun c => (c, f c)) = R := by simp [keys, Function.comp_def]
  refine ⟨by rw [hkeys]; exact hR, fun c => by rw [hkeys]; exact h c, fun e he => ?_⟩
  obtain ⟨c, _, rfl⟩ := List.mem_map.1 he
  rfl
theorem last_keys {l : List Ent} {c : List UInt8} (h : last l c ≠ 1) : c ∈ keys l := by
  have key : ∀ (l : List Ent) (n : Int), c ∉ keys l → l.foldl (fun n e => if e.1 = c then e.2 else n) n = n := by
    intro l
    induction l with
    | nil => intro n _; rfl
    | cons x r ih =>
      intro n hc
      simp only [keys, List.map_cons, List.mem_cons, not_or] at hc
      rw [List.foldl_cons, if_neg fun e => hc.1 e.symm, ih _ hc.2]
  by_cases hc : c ∈ keys l
  · exact hc
  · exact absurd (key l 1 hc) h
theorem last_cat {l : List Ent} (h : firstErr l = 0) {c : List UInt8} (hc : last l c ≠ 1) : (catOf c).isSome = true := by
  obtain ⟨e, he, rfl⟩ := List.mem_map.1 (last_keys hc)
  exact (entErr_zero.1 (firstErr_zero.1 h e he)).1
end Go.Proofs.YtpokdihnimlgkaaGreatDoor
