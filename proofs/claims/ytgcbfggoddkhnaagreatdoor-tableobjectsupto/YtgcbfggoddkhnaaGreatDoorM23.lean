/- Lemmas for the law: Ua, Uc, Ub, Ud, Ru. -/
import Derived.Test.YtgcbfggoddkhnaaGreatDoorM22
import Derived.Test.YtgcbfggoddkhnaaGreatDoorM17
import Derived.Test.YtgcbfggoddkhnaaGreatDoorM16
import Derived.Test.YtgcbfggoddkhnaaGreatDoorM14
import Derived.Test.YtgcbfggoddkhnaaGreatDoorM13
namespace Go.Proofs.YtgcbfggoddkhnaaGreatDoor
open Go.RowKit
open Pa (encZ zBytes)
noncomputable def tabT (L : Tab) : TT := fun s => by classical exact if h : ∃ p, s = Pa.zText p then fnd L h.choose else none
theorem isT_tabT (L : Tab) : IsT (tabT L) L where
 at' := fun p => by
  unfold tabT
  have h : ∃ q, Pa.zText p = Pa.zText q := ⟨p, rfl⟩
  rw [dif_pos h, ← zText_inj h.choose_spec]
 key := fun s o h => by
  unfold tabT at h
  by_cases e : ∃ p, s = Pa.zText p
  · exact e
  · rw [dif_neg e] at h; cases h
theorem isT_eq {T : TT} {L : Tab} (h : IsT T L) : T = tabT L := funext fun s => by
 cases hs : T s with
 | some o =>
  obtain ⟨p, rfl⟩ := h.key s o hs
  rw [(isT_tabT L).at', ← h.at', hs]
 | none =>
  cases ht : tabT L s with
  | none => rfl
  | some o =>
   obtain ⟨p, rfl⟩ := (isT_tabT L).key s o ht
   rw [(isT_tabT L).at', ← h.at', hs] at ht
   cases ht
theorem tabT_at (L : Tab) (p : List Int) : tabT L (Pa.zText p) = fnd L p := (isT_tabT L).at' p
theorem atP_tabT (L : Tab) : atP (tabT L) = fnd L := (isT_tabT L).atP
theorem atT_tabT {L : Tab} {p : List Int} {c : Ob} (h : fnd L p = some c) : atT (tabT L) (Pa.zText p) = c := by unfold atT; rw [tabT_at, h]; rfl
noncomputable def addL (L : Tab) (p : List Int) (o : Ob) (q : Int) : Tab :=
 if (addR (tabT L) p o q).2 = 0 then lay (lay L (p ++ [(atT (tabT L) (Pa.zText p)).next]) o) p (addK (atT (tabT L) (Pa.zText p)) o.kind q) else L
noncomputable def setL (L : Tab) (p : List Int) (o : Ob) : Tab := if setR (tabT L) p o = 0 then lay L p o else L
noncomputable def allotL (L : Tab) (p : List Int) (q : Int) : Tab :=
 if allotR (tabT L) p q = 0 then lay L p.dropLast (allotK (atT (tabT L) (Pa.zText p.dropLast)) (p.getLastD 0) q) else L
noncomputable def remvL (L : Tab) (p : List Int) : Tab := if (remR L p).2 = 0 then remL L p else L
theorem add_is {L : Tab} (hA : Asc L) (p : List Int) (o : Ob) (q : Int) : (if (addR (tabT L) p o q).2 = 0 then addT (tabT L) p o q else tabT L) = tabT (addL L p o q) := by
 unfold addL
 split
 · exact isT_eq (((isT_tabT L).upd hA _ _).upd (lay_asc hA _ _) _ _)
 · rfl
theorem addR_zero {L : Tab} {p : List Int} {o : Ob} {q : Int} (h : (addR (tabT L) p o q).2 = 0) : ∃ c, fnd L p = some c ∧ unfitR c o q = 0 ∧ roomR (tabT L) p c o q = 0 := by
 unfold addR at h
 rw [tabT_at] at h
 cases hc : fnd L p with
 | none => rw [hc] at h; cases h
 | some c =>
  rw [hc] at h
  simp only at h
  by_cases h1 : unfitR c o q = 0
  · rw [if_pos h1] at h
    by_cases h2 : roomR (tabT L) p c o q = 0
    · exact ⟨c, rfl, h1, h2⟩
    · rw [if_neg h2] at h; exact absurd h h2
  · rw [if_neg h1] at h; exact absurd h h1
theorem add_val {L : Tab} (hL : ValT L) (p : List Int) (o : Ob) (q : Int) : ValT (addL L p o q) := by
 unfold addL
 split
 · rename_i h
   obtain ⟨c, hc, h1, h2⟩ := addR_zero h
   obtain ⟨a1, ⟨a2, a3, a4, a5⟩, a6⟩ := unfitR_zero h1
   obtain ⟨b1, b2, b3, b4, b5⟩ := roomR_zero h2
   rw [atP_tabT] at b5
   have hv := hL.add hc a1 a2 a3 a5 a6 b1 b2 b3 b4 b5
   rw [atT_tabT hc]
   have hne : p ++ [c.next] ≠ p := snoc_ne p c.next
   rw [asc_fnd (lay_asc (lay_asc hL.asc _ _) _ _) (lay_asc (lay_asc hL.asc _ _) _ _) (L := lay (lay L (p ++ [c.next]) o) p (addK c o.kind q)) (M := lay (lay L p (addK c o.kind q)) (p ++ [c.next]) o) fun x => by
    rw [fnd_lay (lay_asc hL.asc _ _), fnd_lay (lay_asc hL.asc _ _), fnd_lay hL.asc, fnd_lay hL.asc]
    by_cases e1 : x = p
    · rw [if_pos e1, if_neg (fun e => hne (e.symm.trans e1)), if_pos e1]
    · rw [if_neg e1]
      by_cases e2 : x = p ++ [c.next]
      · rw [if_pos e2, if_pos e2]
      · rw [if_neg e2, if_neg e2, if_neg e1]]
   exact hv
 · exact hL
theorem snoc_last {p : List Int} (h : p ≠ []) : p = p.dropLast ++ [p.getLastD 0] := by
 have h1 := (List.dropLast_concat_getLast h).symm
 have h2 : p.getLastD 0 = p.getLast h := by
  rw [List.getLastD_eq_getLast?, List.getLast?_eq_some_getLast h]
  rfl
 rw [h2]
 exact h1
theorem remR_zero {L : Tab} {p : List Int} (h : (remR L p).2 = 0) : p ≠ [] ∧ ∃ o, fnd L p = some o := by
 unfold remR at h
 cases hc : fnd L p with
 | none => rw [hc] at h; cases h
 | some o =>
  rw [hc] at h
  simp only at h
  by_cases h1 : p = []
  · rw [if_pos h1] at h; cases h
  · exact ⟨h1, o, rfl⟩
theorem rem_val {L : Tab} (hL : ValT L) (p : List Int) : ValT (remvL L p) := by
 unfold remvL
 split
 · rename_i h
   obtain ⟨h1, o, ho⟩ := remR_zero h
   have hp := snoc_last h1
   rw [hp] at ho
   obtain ⟨c, hcc, _⟩ := hL.entry ho
   have hv := hL.remove hcc (n := p.getLastD 0)
   unfold remL
   rw [hcc]
   rw [← hp] at hv
   exact hv
 · exact hL
theorem sml_app {a b : List Nat} (ha : Tp.Sml a) (hb : Tp.Sml b) : Tp.Sml (a ++ b) := fun c hc => (List.mem_append.1 hc).elim (ha c) (hb c)
theorem sml_flat {α : Type} {f : α → List Nat} {l : List α} (h : ∀ x ∈ l, Tp.Sml (f x)) : Tp.Sml (l.flatMap f) := fun c hc => by
 obtain ⟨x, hx, hc⟩ := List.mem_flatMap.1 hc
 exact h x hx c hc
theorem sml_z (z : Int) : Tp.Sml (encZ z) := by
 unfold encZ
 split
 · exact Tp.enc_sml _
 · exact fun c hc => by cases hc
theorem sml_txt (x : List UInt8) : Tp.Sml (Tp.txt (str x)) := by
 rw [txt_eq]
 refine sml_app (Tp.enc_sml _) fun c hc => ?_
 unfold Tp.bys at hc
 obtain ⟨u, _, rfl⟩ := List.mem_map.1 hc
 exact u.toNat_lt
theorem sml_path (p : List Int) : Tp.Sml (zBytes p) := sml_app (Tp.enc_sml _) (sml_flat fun z _ => sml_z z)
theorem sml_lab (l : List Ent) : Tp.Sml (labBytes l) := sml_app (Tp.enc_sml _) (sml_flat fun _ _ => sml_app (sml_txt _) (sml_z _))
theorem sml_own (l : List (List UInt8)) : Tp.Sml (ownBytes l) := sml_app (Tp.enc_sml _) (sml_flat fun _ _ => sml_txt _)
theorem sml_ob {o : Ob} (h : Tp.Sml o.bytes) : Tp.Sml (obBytes o) :=
 sml_app (sml_z _) (sml_app (sml_lab _) (sml_app (sml_app (Tp.enc_sml _) (sml_flat fun _ _ => sml_app (sml_z _) (sml_app (sml_z _) (sml_z _)))) (sml_app (sml_z _) (sml_app (sml_app (Tp.enc_sml _) h) (sml_app (sml_own _) (sml_app (sml_z _) (sml_app (sml_lab _) (sml_app (sml_z _) (sml_app (Tp.enc_sml _) (sml_flat fun _ _ => sml_app (sml_z _) (sml_app (sml_path _) (sml_z _))))))))))))
theorem tab_sml {L : Tab} (h : ∀ x ∈ L, Tp.Sml x.2.bytes) : Tp.Sml (tabBytes L) := sml_app (Tp.enc_sml _) (sml_flat fun x hx => sml_app (sml_path _) (sml_ob (h x hx)))
theorem flat_le {α : Type} {f : α → List Nat} {l : List α} {k : Nat} (h : ∀ x ∈ l, (f x).length ≤ k) : (l.flatMap f).length ≤ l.length * k := by
 induction l with
 | nil => simp
 | cons x r ih =>
  have h1 := h x (by simp)
  have h2 := ih fun y hy => h y (by simp [hy])
  simp only [List.flatMap_cons, List.length_append, List.length_cons, Nat.succ_mul]
  omega
theorem enc_le9 {n : Nat} (h : n ≤ 1000000000) : (Tp.enc n).length ≤ 9 := Tp.enc_nine (by omega)
theorem path_le {p : List Int} (h : p.length ≤ 6) : (zBytes p).length ≤ 63 := by
 have h1 := enc_le9 (n := p.length) (by omega)
 have h2 := flat_le (f := encZ) (l := p) (k := 9) fun z _ => Pa.encZ_len z
 unfold zBytes
 rw [List.length_append]
 omega
theorem txt_le {x : List UInt8} (h : x.length ≤ 80) : (Tp.txt (str x)).length ≤ 89 := by
 rw [txt_eq, List.length_append, bys_len]
 have := enc_le9 (n := x.length) (by omega)
 omega
theorem lab_le {l : List Ent} (h : RightL l) : (labBytes l).length ≤ 800 := by
 have h0 := right_len80 h
 have h1 := enc_le9 (n := l.length) (by omega)
 have h2 := flat_le (f := entBytes) (l := l) (k := 98) fun e he => by
  have a := txt_le (h0.2 e he).1
  have b := Pa.encZ_len e.2
  unfold entBytes
  rw [List.length_append]
  omega
 unfold labBytes
 rw [List.length_append]
 omega
theorem own_le {l : List (List UInt8)} (h : OwnL l) : (ownBytes l).length ≤ 800 := by
 have h0 := h.1
 have h1 := enc_le9 (n := l.length) (by omega)
 have h2 := flat_le (f := catBytes) (l := l) (k := 98) fun x hx => by
  have := txt_le (cat_len80 (h.2.2 x hx))
  unfold catBytes
  omega
 unfold ownBytes
 rw [List.length_append]
 omega
theorem ob_le {o : Ob} (h : ObOk o) : (obBytes o).length ≤ 4000 := by
 have h1 := lab_le h.lab
 have h2 := lab_le h.entry
 have h3 := own_le h.own
 have a1 := h.kids.1
 have a2 := h.bytes
 have a3 := h.maps.1
 have h4 := flat_le (f := kidBytes) (l := o.kids) (k := 27) fun k _ => by
  have a := Pa.encZ_len k.1
  have b := Pa.encZ_len k.2.1
  have c := Pa.encZ_len k.2.2
  unfold kidBytes
  simp only [List.length_append]
  omega
 have h5 := flat_le (f := mapBytes) (l := o.maps) (k := 90) fun m hm => by
  have a := Pa.encZ_len m.1
  have b := path_le (h.maps.2.1 m hm).2.1
  have c := Pa.encZ_len (if m.2.2 then 1 else 0)
  unfold mapBytes
  simp only [List.length_append]
  omega
 have e1 := enc_le9 (n := o.kids.length) (by omega)
 have e2 := enc_le9 (n := o.bytes.length) (by omega)
 have e3 := enc_le9 (n := o.maps.length) (by omega)
 have z1 := Pa.encZ_len o.kind
 have z2 := Pa.encZ_len o.next
 have z3 := Pa.encZ_len o.cats
 have z4 := Pa.encZ_len o.ring
 unfold obBytes
 simp only [List.length_append]
 omega
theorem tab_le {L : Tab} (h : ValT L) (hn : L.length ≤ 1000) : (tabBytes L).length ≤ 5000000 := by
 have h1 := enc_le9 (n := L.length) (by omega)
 have h2 := flat_le (f := itemBytes) (l := L) (k := 4063) fun x hx => by
  have a := path_le (h.path x hx).1
  have b := ob_le (h.ob x hx)
  unfold itemBytes
  rw [List.length_append]
  omega
 unfold tabBytes
 rw [List.length_append]
 omega
structure LiveT (w : World) (B t n : Nat) (F : Nat → Prop) (L : Tab) : Prop where
 tab : TabAt w F t n (tabT L)
 val : ValT L
 own : ∀ b, F b → B ≤ b
 tB : B ≤ t
def Leaves (w : World) (B t n : Nat) (F : Nat → Prop) (L : Tab) (w' : World) : Prop := ∃ F', LiveT w' B t n F' L ∧ Stp w F w' F'
theorem LiveT.on {w w' : World} {B t n : Nat} {F : Nat → Prop} {L : Tab} (h : LiveT w B t n F L) (hb : Below w.heap.size w w') : LiveT w' B t n F L := ⟨h.tab.on hb, h.val, h.own, h.tB⟩
theorem LiveT.next {w w' : World} {B t n n' : Nat} {F F' : Nat → Prop} {L L' : Tab} {T : TT} (h : LiveT w B t n F L) (hB : B ≤ w.heap.size) (ht : TabAt w' F' t n' T) (hT : T = tabT L') (hL : ValT L') (hs : Stp w F w' F') : Leaves w B t n' F L' w' :=
 ⟨F', ⟨by rw [← hT]; exact ht, hL, fun b hb => (hs.2 b hb).elim (h.own b) fun h => Nat.le_trans hB h, h.tB⟩, hs⟩
theorem Leaves.below {w w' : World} {B t n m : Nat} {F : Nat → Prop} {L L' : Tab} (h : LiveT w B t n F L) (hB : B ≤ w.heap.size) (k : Leaves w B t m F L' w') : Below B w w' := by
 obtain ⟨F', _, hs⟩ := k
 exact hs.1.below hB h.own
theorem asc_new : Asc [([], ob1)] := List.pairwise_singleton _ _
theorem ob1_ok : ObOk ob1 := by decide
theorem val_new : ValT [([], ob1)] where
 asc := asc_new
 root := ⟨ob1, rfl, rfl⟩
 path := fun x hx => by rw [List.mem_singleton] at hx; subst hx; exact ⟨by simp, fun z hz => by cases hz⟩
 ob := fun x hx => by rw [List.mem_singleton] at hx; subst hx; exact ob1_ok
 fits := fun x hx => by rw [List.mem_singleton] at hx; subst hx; rw [quotaP_nil]; decide
 holds := fun x hx => by rw [List.mem_singleton] at hx; subst hx; exact fun k hk => by cases hk
theorem live_new {w : World} (he : Env w) : Calls Tryz.prog 19 #[] w fun e w' => ∃ t F, e = .returned (.pointer (some ⟨t, 0, none⟩)) ∧ LiveT w' w.heap.size t 1 F [([], ob1)] ∧ Below w.heap.size w w' := by
 refine (new_any he).mono ?_
 rintro e w' ⟨t, h1, h2, F, h3, h4⟩
 exact ⟨t, F, h1, ⟨by rw [← isT_eq newT_is]; exact h3, val_new, fun b hb => (h4.2 b hb).elim (fun h => h.elim) id, h2⟩, h4.1.below (Nat.le_refl _) fun b h => h.elim⟩
theorem live_add {w : World} {B t n : Nat} {F G : Nat → Prop} {L : Tab} {A : Option Addr} {c : Nat} {p : List Int} {v : Value} {o : Ob} {q : Int} (he : Env w) (h8 : 8 ≤ B) (hB : B ≤ w.heap.size) (h : LiveT w B t n F L) (hn : n ≤ 10000000000) (hp : Pa.PL w A c p) (hpF : Sl w F A (Pa.zCellsOf p)) (hpl : p.length ≤ 10000000) (hv : ObjAt w G v o) (hw : WideO o) :
  Calls Tryz.prog 25 #[.pointer (some ⟨t, 0, none⟩), .slice A p.length c, v, .int .i64 q] w fun e w' => e = .returned (.tuple #[.int .i64 (addR (tabT L) p o q).1, .int .i64 (addR (tabT L) p o q).2]) ∧ Leaves w B t (n + 2) F (addL L p o q) w' := by
 refine (add_any he h.tab (isT_tabT L) h.val (fun x hx => Nat.le_trans h8 (h.own x hx)) hn hp hpF hpl hv hw).mono ?_
 rintro e w' ⟨h1, F', h2, h3⟩
 exact ⟨h1, h.next hB h2 (add_is h.val.asc p o q) (add_val h.val p o q) h3⟩
theorem live_remove {w : World} {B t n : Nat} {F : Nat → Prop} {L : Tab} {A : Option Addr} {c : Nat} {p : List Int} (he : Env w) (h8 : 8 ≤ B) (hB : B ≤ w.heap.size) (h : LiveT w B t n F L) (hn : n ≤ 10000000000) (hp : Pa.PL w A c p) (hpF : Sl w F A (Pa.zCellsOf p)) (hpl : p.length ≤ 10000000) :
  Calls Tryz.prog 26 #[.pointer (some ⟨t, 0, none⟩), .slice A p.length c] w fun e w' => e = .returned (.tuple #[.int .i64 (remR L p).1, .int .i64 (remR L p).2]) ∧ Leaves w B t (n + 1) F (remvL L p) w' := by
 refine (remove_any he h.tab (isT_tabT L) h.val (fun x hx => Nat.le_trans h8 (h.own x hx)) (by have := h.val.len; omega) hn hp hpF hpl).mono ?_
 rintro e w' ⟨h1, F', T', h2, h3, h4⟩
 exact ⟨h1, h.next hB h2 (isT_eq h4) (rem_val h.val p) h3⟩
theorem live_quota {w : World} {B t n : Nat} {F : Nat → Prop} {L : Tab} {A : Option Addr} {c : Nat} {p : List Int} (he : Env w) (h : LiveT w B t n F L) (hp : Pa.PL w A c p) (hpl : p.length ≤ 10000000) :
  Calls Tryz.prog 28 #[.pointer (some ⟨t, 0, none⟩), .slice A p.length c] w (RetB w (.int .i64 (quotaP (fnd L) p))) := by
 have := quota_any he (h.tab.read (Below.refl _ _)) hp hpl
 rwa [atP_tabT] at this
theorem live_paths {w : World} {B t n : Nat} {F : Nat → Prop} {L : Tab} (he : Env w) (h : LiveT w B t n F L) (hn : n ≤ 10000000000) :
  Calls Tryz.prog 29 #[.pointer (some ⟨t, 0, none⟩)] w fun e w' => Below w.heap.size w w' ∧ ∃ v, e = .returned v ∧ PthsAt w' w.heap.size v (L.map Prod.fst) :=
 paths_any he (h.tab.read (Below.refl _ _)) (isT_tabT L) h.val.asc h.val.path hn
theorem live_bytes {w : World} {B t n : Nat} {F : Nat → Prop} {L : Tab} (he : Env w) (h : LiveT w B t n F L) (hn : n ≤ 10000000000) (hb : (tabBytes L).length ≤ 80000000) :
  Calls Tryz.prog 30 #[.pointer (some ⟨t, 0, none⟩)] w (Tp.RetCopy w (tabBytes L)) :=
 bytes_any he (h.tab.read (Below.refl _ _)) (isT_tabT L) h.val.asc h.val.path hn hb
structure FreshT (w : World) (h t n : Nat) (F : Nat → Prop) (L : Tab) : Prop where
 tab : TabNew w h F t n (tabT L)
 val : ValT L
theorem FreshT.live {w : World} {h t n : Nat} {F : Nat → Prop} {L : Tab} (k : FreshT w h t n F L) : LiveT w h t n F L := ⟨k.tab.at, k.val, k.tab.own.1, k.tab.own.2⟩
theorem FreshT.kp {S : Nat → Prop} {w w' : World} {h t n : Nat} {F : Nat → Prop} {L : Tab} (k : FreshT w h t n F L) (hk : Tp.Kp S w w') (hS : ∀ b, b < w.heap.size → S b → b < h) : FreshT w' h t n F L := ⟨k.tab.kp hk hS, k.val⟩
theorem FreshT.on {w w' : World} {h t n : Nat} {F : Nat → Prop} {L : Tab} (k : FreshT w h t n F L) (hb : Below w.heap.size w w') : FreshT w' h t n F L := ⟨k.tab.on hb, k.val⟩
theorem live_load {w : World} {A : Option Addr} {c : Nat} {l : List Nat} (he : Env w) (hl : Tp.Bts w w.heap.size A l) (hs : Tp.Sml l) (hc : A = none → c = 0) (hn : l.length ≤ 70000000) :
   Calls Tryz.prog 32 #[.slice A l.length c] w fun e w' => Below w.heap.size w w' ∧ ((∃ L t F n, l = tabBytes L ∧ n ≤ 65536 ∧ e = .returned (.tuple #[.pointer (some ⟨t, 0, none⟩), .int .i64 0]) ∧ FreshT w' w.heap.size t n F L) ∨ ((¬ ∃ L, ValT L ∧ l = tabBytes L) ∧ e = .returned (.tuple #[.pointer none, .int .i64 10]))) := by
 refine (load_any he hl hs hc hn).mono ?_
 rintro e w' (⟨L, h1, h2, t', F, n', T, h3, h5, h6, h7, h8⟩ | ⟨h1, h2, h3⟩)
 · exact ⟨h8, .inl ⟨L, t', F, n', h2, h5, h3, ⟨by rw [← isT_eq h7]; exact h6, h1⟩⟩⟩
 · exact ⟨h3, .inr ⟨h1, h2⟩⟩
theorem FreshT.leaves {w0 w w' : World} {h B t n m t' n' : Nat} {F F' : Nat → Prop} {L M M' : Tab} (k : FreshT w h t n F L) (hl : LiveT w0 B t' n' F' M) (h0 : w0.heap.size ≤ h) (hk : Leaves w B t' m F' M' w') : FreshT w' h t n F L := by
 obtain ⟨F2, _, hs⟩ := hk
 exact k.kp hs.1 fun b _ hb => Nat.lt_of_lt_of_le ((by obtain ⟨bm, V, K, q⟩ := hl.tab; exact q.ltF b hb)) h0
theorem LiveT.sml {w : World} {B t n : Nat} {F : Nat → Prop} {L : Tab} (h : LiveT w B t n F L) : Tp.Sml (tabBytes L) := by
 obtain ⟨bm, V, K, q⟩ := h.tab
 have hb : ∀ x ∈ L, Tp.Sml x.2.bytes := fun x hx => (q.wide (Pa.zText x.1) x.2 (by rw [tabT_at]; exact fnd_of h.val.asc hx)).bytes.2
 exact tab_sml hb
end Go.Proofs.YtgcbfggoddkhnaaGreatDoor
namespace Go.Proofs.YtgcbfggoddkhnaaGreatDoor
open Go.RowKit
def RetGot (w : World) (T : TT) (s : List UInt8) (e : Ending) (w' : World) : Prop :=
 Below w.heap.size w w' ∧ ∃ v, e = .returned (.tuple #[v, .bool (T s).isSome]) ∧ ObjAt w' (fun x => x < w.heap.size) v (atT T s) ∧ WideO (atT T s)
set_option maxRecDepth 100000 in
set_option maxHeartbeats 4000000 in
theorem get_new {w : World} {t n : Nat} {T : TT} {A : Option Addr} {c : Nat} {p : List Int} (he : Env w) (ht : GivR w t n T) (hp : Pa.PL w A c p) (hn : p.length ≤ 10000000) :
   Calls Tryz.prog 23 #[.pointer (some ⟨t, 0, none⟩), .slice A p.length c] w (RetGot w T (Pa.zText p)) := by
 have B0 : Hid (Below w.heap.size w (w.alloc (.cells #[.int .i64 0, .slice none 0 0, .slice none 0 0, .int .i64 0, .slice none 0 0, .slice none 0 0, .int .i64 0, .slice none 0 0, .int .i64 0, .slice none 0 0] 29))) := (Below.refl _ _).alloc (Nat.le_refl _) _
 have Z0 := Lib.hid (BoxAt.new w #[.int .i64 0, .slice none 0 0, .slice none 0 0, .int .i64 0, .slice none 0 0, .slice none 0 0, .int .i64 0, .slice none 0 0, .int .i64 0, .slice none 0 0] 29)
 have H75 := Lib.hid (find_read (he.on B0.out) (ht.on B0.out) (hp.on B0.out) hn)
 obtain ⟨o, ho⟩ : ∃ o, o = atT T (Pa.zText p) := ⟨_, rfl⟩
 obtain ⟨ok, hok⟩ : ∃ ok, ok = (T (Pa.zText p)).isSome := ⟨_, rfl⟩
 unfold RetFind at H75
 unfold RetGot
 rw [← ho, ← hok] at H75
 rw [← ho, ← hok]
 clear he ht hp hn ho hok
 go_enter Tryz.func23, Tryz.ntmps23
 go_wp2_with fail
 refine H75.out.mono ?_
 rintro e w1 ⟨hb1, v, rfl, hv, hwo⟩
 have B1 := Lib.hid (next_below B0.out hb1)
 have Z1 := Lib.hid (Z0.out.on hb1)
 have hal := fun O => (Below.refl w1.heap.size w1).alloc (Nat.le_refl _) O
 have H10 := Lib.hid (fun O => copy_any (hv.read (hal O)) hwo)
 have HW := Lib.hid hwo
 obtain ⟨vk, ⟨vl, vb, vo, ve, vm, rfl, ⟨Al, cl, rfl, -⟩, ⟨Ab, cb, rfl, -⟩, ⟨Ao, co, rfl, -⟩, ⟨Ae, ce, rfl, -⟩, ⟨Am, cm, rfl, -⟩⟩, ⟨Ak, ck, rfl, -⟩⟩ := hv
 obtain ⟨cs, hcs⟩ : ∃ cs : Array Value, cs = #[.int .i64 o.kind, .slice Al o.lab.length cl, .slice Ak o.kids.length ck, .int .i64 o.next, .slice Ab o.bytes.length cb, .slice Ao o.own.length co, .int .i64 o.cats, .slice Ae o.entry.length ce, .int .i64 o.ring, .slice Am o.maps.length cm] := ⟨_, rfl⟩
 have B2 := Lib.hid (next_below B1.out (hal (.cells cs 29)))
 have Z2 : Hid (BoxAt (w1.alloc (.cells cs 29)) w.heap.size _ 29) := Z1.out.alloc _
 have S2 : Hid (w.heap.size < (w1.alloc (.cells cs 29)).heap.size) := Z2.out.lt
 have CS := Lib.hid hcs
 clear hb1 hal hwo hcs
 go_wp2_with fail
 refine (H10.out _).mono ?_
 rintro e w3 ⟨hb3, v3, vk3, rfl, hrow, hobj⟩
 rw [← CS.out] at hb3 hrow hobj
 have B3 := Lib.hid (next_below B2.out hb3)
 have z3 := Z2.out.on hb3
 have Z3 := Lib.hid z3
 have hk3 := slv_row hrow
 have s2 := S2.out
 have hlt : w.heap.size < w3.heap.size := z3.lt
 have HO : Hid (∀ W, Tp.Kp (fun y => y = w.heap.size) w3 W → ObjAt W (fun x => x < w.heap.size) v3 o) := fun W hW =>
   ⟨vk3, hobj.kp hW (fun b _ e => by subst e; exact .inl s2) (fun b _ h => .inl (Nat.lt_trans h s2)), hk3.kp hW (fun b _ e => by subst e; exact s2) (fun b _ h => Nat.lt_trans h s2)⟩
 obtain ⟨vl3, vb3, vo3, ve3, vm3, rfl, ⟨Al3, cl3, rfl, -⟩, ⟨Ab3, cb3, rfl, -⟩, ⟨Ao3, co3, rfl, -⟩, ⟨Ae3, ce3, rfl, -⟩, ⟨Am3, cm3, rfl, -⟩⟩ := hobj
 obtain ⟨Ak3, ck3, rfl, -⟩ := hk3
 obtain ⟨r0, r1, r2, r3, r4, r5, r6, r7, r8, r9⟩ := box10 z3
 have fr := z3.frozen
 clear hb3 hrow z3
 go_wp2_with fail
 (try simp only [Exit.inBlock, Exit.then])
 refine bodyPost_ret (v := .tuple #[.agg #[.int .i64 o.kind, .slice Al3 o.lab.length cl3, .slice Ak3 o.kids.length ck3, .int .i64 o.next, .slice Ab3 o.bytes.length cb3, .slice Ao3 o.own.length co3, .int .i64 o.cats, .slice Ae3 o.entry.length ce3, .int .i64 o.ring, .slice Am3 o.maps.length cm3], .bool ok]) ?_ rfl ⟨?_, _, rfl, HO.out _ (kp_put10 _ _ _ _ _ _ _ _ _ _ _ _), HW.out⟩
 · rw [results_cell_tmp rfl]
   have hx := Z3.out.set10 (.int .i64 o.kind) (.slice Al3 o.lab.length cl3) (.slice Ak3 o.kids.length ck3) (.int .i64 o.next) (.slice Ab3 o.bytes.length cb3) (.slice Ao3 o.own.length co3) (.int .i64 o.cats) (.slice Ae3 o.entry.length ce3) (.int .i64 o.ring) (.slice Am3 o.maps.length cm3)
   obtain ⟨q0, q1, q2, q3, q4, q5, q6, q7, q8, q9⟩ := box10 hx
   unfold put10 at q0 q1 q2 q3 q4 q5 q6 q7 q8 q9
   go_simp
 · exact below_put10 B3.out (Nat.le_refl _) _ _ _ _ _ _ _ _ _ _
theorem live_get {w : World} {B t n : Nat} {F : Nat → Prop} {L : Tab} {A : Option Addr} {c : Nat} {p : List Int} (he : Env w) (h : LiveT w B t n F L) (hp : Pa.PL w A c p) (hpl : p.length ≤ 10000000) :
 Calls Tryz.prog 23 #[.pointer (some ⟨t, 0, none⟩), .slice A p.length c] w (RetGot w (tabT L) (Pa.zText p)) := get_new he (h.tab.read (Below.refl _ _)) hp hpl
theorem LiveT.lt {w : World} {B t n : Nat} {F : Nat → Prop} {L : Tab} (h : LiveT w B t n F L) : ∀ b, F b → b < w.heap.size := by
 obtain ⟨bm, V, K, q⟩ := h.tab
 exact q.ltF
end Go.Proofs.YtgcbfggoddkhnaaGreatDoor
namespace Go.Proofs.YtgcbfggoddkhnaaGreatDoor
open Go.RowKit
def oSeg : Ob := ⟨2, [], [], 0, [97, 98, 99], [], 0, [], 0, []⟩
def segV (b : Nat) : Value := .agg #[.int .i64 2, .slice none 0 0, .slice none 0 0, .int .i64 0, .slice (some ⟨b, 0, none⟩) 3 3, .slice none 0 0, .int .i64 0, .slice none 0 0, .int .i64 0, .slice none 0 0]
theorem oSeg_ok : ObOk oSeg := by decide
theorem oSeg_wide : WideO oSeg := { ob0_wide with kind := ⟨by decide, by decide⟩, bytes := ⟨by decide, fun c h => by simp [oSeg] at h; omega⟩ }
theorem segV_at (w : World) : ObjAt (w.alloc (.cells #[.int .u8 97, .int .u8 98, .int .u8 99] 5 (3, 4))) (fun x => x < w.heap.size) (segV w.heap.size) oSeg := by
 refine ⟨.slice none 0 0, ⟨_, _, _, _, _, rfl, SlV.nil _ _, ⟨_, _, rfl, fun h => (by cases h), Nat.le_refl _, fun _ => ⟨w.heap.size, 0, rfl, by simp, by simp, fun k u hu => ?_⟩⟩, SlV.nil _ _, SlV.nil _ _, MapsV.nil _ _⟩, SlV.nil _ _⟩
 have hk : k < 3 := (List.getElem?_eq_some_iff.1 hu).1
 match k, hk, hu with
 | 0, _, hu => rw [World.cell?_alloc_mark]; simp [Tp.cellsOf, oSeg] at hu ⊢; exact hu
 | 1, _, hu => rw [World.cell?_alloc_mark]; simp [Tp.cellsOf, oSeg] at hu ⊢; exact hu
 | 2, _, hu => rw [World.cell?_alloc_mark]; simp [Tp.cellsOf, oSeg] at hu ⊢; exact hu
def tab1 : Tab := [([], addK ob1 2 19), ([0], oSeg)]
theorem first_add : addR (tabT [([], ob1)]) [] oSeg 19 = (0, 0) := by
 unfold addR
 rw [tabT_at]
 show (if unfitR ob1 oSeg 19 = 0 then (if roomR (tabT [([], ob1)]) [] ob1 oSeg 19 = 0 then (ob1.next, (0 : Int)) else (-1, roomR (tabT [([], ob1)]) [] ob1 oSeg 19)) else (-1, unfitR ob1 oSeg 19)) = (0, 0)
 have h1 : unfitR ob1 oSeg 19 = 0 := by decide
 have h2 : roomR (tabT [([], ob1)]) [] ob1 oSeg 19 = 0 := by unfold roomR; rw [quotaP_nil]; decide
 rw [if_pos h1, if_pos h2]
 rfl
theorem first_tab : addL [([], ob1)] [] oSeg 19 = tab1 := by
 unfold addL
 rw [first_add, if_pos rfl, atT_tabT (c := ob1) rfl]
 rfl
theorem first_more : addR (tabT tab1) [] oSeg 18 = (-1, 33) := by
 unfold addR
 rw [tabT_at]
 show (if unfitR (addK ob1 2 19) oSeg 18 = 0 then (if roomR (tabT tab1) [] (addK ob1 2 19) oSeg 18 = 0 then ((addK ob1 2 19).next, (0 : Int)) else (-1, roomR (tabT tab1) [] (addK ob1 2 19) oSeg 18)) else (-1, unfitR (addK ob1 2 19) oSeg 18)) = (-1, 33)
 have h1 : unfitR (addK ob1 2 19) oSeg 18 = 0 := by decide
 have h2 : roomR (tabT tab1) [] (addK ob1 2 19) oSeg 18 = 33 := by unfold roomR; rw [quotaP_nil]; decide
 rw [if_pos h1, h2, if_neg (by decide)]
theorem first_same : addL tab1 [] oSeg 18 = tab1 := by
 unfold addL
 rw [first_more, if_neg (by decide)]
theorem first_rem : remR tab1 [0] = (1, 0) := by decide
theorem first_left : (remvL tab1 [0]).length = 1 := by decide
theorem first_quota : quotaP (fnd tab1) [0] = 19 := by decide
theorem first_uses : uses oSeg = 19 := by decide
theorem first_val : ValT tab1 := by
 have := add_val val_new [] oSeg 19
 rwa [first_tab] at this
theorem first_bytes : (tabBytes tab1).length ≤ 5000000 := tab_le first_val (by decide)
theorem zero_path (w : World) : Pa.PL (w.alloc (.cells #[.int .i64 0] 3)) (some ⟨w.heap.size, 0, none⟩) 1 [0] where
 zs := fun _ => ⟨w.heap.size, 0, rfl, by simp, fun k x hx => by
  have hk : k < 1 := (List.getElem?_eq_some_iff.1 hx).1
  match k, hk, hx with
  | 0, _, hx => simp at hx ⊢; exact hx⟩
 nil := fun h => by cases h
 cap := by simp
 wide := fun z hz => by simp at hz; subst hz; decide
theorem nil_path (w : World) : Pa.PL w none 0 [] where
 zs := fun h => absurd h (by simp)
 nil := fun _ => rfl
 cap := by simp
 wide := fun z hz => by cases hz
set_option maxRecDepth 100000 in
set_option maxHeartbeats 2000000 in
theorem first_any {w : World} (he : Env w) : Calls Tryz.prog 8 #[] w (RetB w (.bool true)) := by
 have H19 := Lib.hid (live_new he)
 have q0 := fun W : World => Lib.run_convert_bytes_const (P := Tryz.prog) W 25 5 #[.int .u8 97, .int .u8 98, .int .u8 99] 3 3 Tryz.underlying25 Tryz.underlying5
 have HE := Lib.hid he
 have H8 := he.1
 clear he
 go_enter Tryz.func8, Tryz.ntmps8
 go_wp2_with fail
 refine H19.out.mono ?_
 rintro e w1 ⟨t, F1, rfl, hl1, hb1⟩
 obtain ⟨w2, hw2⟩ : ∃ W, W = w1.alloc (.cells #[.int .u8 97, .int .u8 98, .int .u8 99] 5 (3, 4)) := ⟨_, rfl⟩
 obtain ⟨b2, hb2⟩ : ∃ b, b = w1.heap.size := ⟨_, rfl⟩
 have hb12 : Below w1.heap.size w1 w2 := by rw [hw2]; exact (Below.refl _ _).alloc (Nat.le_refl _) _
 have hO2 : ObjAt w2 (fun x => x < w1.heap.size) (segV b2) oSeg := by rw [hw2, hb2]; exact segV_at w1
 have B2 := next_below hb1 hb12
 have L2 := hl1.on hb12
 have J := live_add (q := 19) (HE.out.on B2) H8 B2.size L2 (by omega) (nil_path w2) (fun h => absurd h (by simp [Pa.zCellsOf])) (by simp) hO2 oSeg_wide
 rw [first_add, first_tab] at J
 have J := Lib.hid J
 have L2 := Lib.hid L2
 have B2 := Lib.hid B2
 clear hl1 hb1 hb12 hO2 H19
 go_wp2_with fail
 rw [← hw2, ← hb2]
 clear hw2 hb2
 refine J.out.mono ?_
 rintro e w3 ⟨rfl, hlv3⟩
 have hb3 := hlv3.below L2.out B2.out.size
 have B3 := B2.out.trans hb3
 obtain ⟨F3, hl3, -⟩ := hlv3
 obtain ⟨w4, hw4⟩ : ∃ W, W = w3.alloc (.cells #[.int .u8 97, .int .u8 98, .int .u8 99] 5 (3, 4)) := ⟨_, rfl⟩
 obtain ⟨b4, hb4⟩ : ∃ b, b = w3.heap.size := ⟨_, rfl⟩
 have hn4 : Below w3.heap.size w3 w4 := by rw [hw4]; exact (Below.refl _ _).alloc (Nat.le_refl _) _
 have hO4 : ObjAt w4 (fun x => x < w3.heap.size) (segV b4) oSeg := by rw [hw4, hb4]; exact segV_at w3
 have L4 := hl3.on hn4
 have B4 := next_below B3 hn4
 have J2 := live_add (q := 18) (HE.out.on B4) H8 B4.size L4 (by omega) (nil_path w4) (fun h => absurd h (by simp [Pa.zCellsOf])) (by simp) hO4 oSeg_wide
 rw [first_more, first_same] at J2
 have J2 := Lib.hid J2
 have L4 := Lib.hid L4
 have B4 := Lib.hid B4
 clear hl3 hb3 hn4 hO4 B3 J
 go_wp2_with fail
 rw [← hw4, ← hb4]
 clear hw4 hb4
 refine J2.out.mono ?_
 rintro e w5 ⟨rfl, hlv5⟩
 have hb5 := hlv5.below L4.out B4.out.size
 have B5 := B4.out.trans hb5
 obtain ⟨F5, hl5, -⟩ := hlv5
 obtain ⟨w6, hw6⟩ : ∃ W, W = w5.alloc (.cells #[.int .i64 0] 3) := ⟨_, rfl⟩
 obtain ⟨b6, hb6⟩ : ∃ b, b = w5.heap.size := ⟨_, rfl⟩
 have hn6 : Below w5.heap.size w5 w6 := by rw [hw6]; exact (Below.refl _ _).alloc (Nat.le_refl _) _
 have hp6 : Pa.PL w6 (some ⟨b6, 0, none⟩) 1 [0] := by rw [hw6, hb6]; exact zero_path w5
 have L6 := hl5.on hn6
 have B6 := next_below B5 hn6
 have J3 := live_get (HE.out.on B6) L6 hp6 (by simp)
 unfold RetGot at J3
 rw [tabT_at, atT_tabT (c := oSeg) (by rfl), show (fnd tab1 [0]).isSome = true from rfl] at J3
 have J3 := Lib.hid J3
 have HF6 := Lib.hid L6.lt
 have L6 := Lib.hid L6
 have B6 := Lib.hid B6
 clear hl5 hb5 hn6 hp6 B5 J2
 go_wp2_with fail
 rw [← hw6, ← hb6]
 clear hw6 hb6
 refine J3.out.mono ?_
 rintro e w7 ⟨hn7, v, rfl, hv, -⟩
 obtain ⟨vk7, hvk7, hsl7⟩ := id hv
 obtain ⟨zk, AL, nL, cL, Ak, nk, ck, nx, AB, nB, cB, AO, nO, cO, ca, AN, nN, cN, ri, AM, nM, cM, rfl⟩ := hvk7.shape hsl7
 obtain ⟨vs, hvs⟩ : ∃ v : Value, v = .agg #[.int .i64 zk, .slice AL nL cL, .slice Ak nk ck, .int .i64 nx, .slice AB nB cB, .slice AO nO cO, .int .i64 ca, .slice AN nN cN, .int .i64 ri, .slice AM nM cM] := ⟨_, rfl⟩
 rw [← hvs] at hv
 obtain ⟨w8, hw8⟩ : ∃ W, W = w7.alloc (.cells #[.int .i64 zk, .slice AL nL cL, .slice Ak nk ck, .int .i64 nx, .slice AB nB cB, .slice AO nO cO, .int .i64 ca, .slice AN nN cN, .int .i64 ri, .slice AM nM cM] 29) := ⟨_, rfl⟩
 obtain ⟨b8, hb8⟩ : ∃ b, b = w7.heap.size := ⟨_, rfl⟩
 have hn8 : Below w7.heap.size w7 w8 := by rw [hw8]; exact (Below.refl _ _).alloc (Nat.le_refl _) _
 have X8 : BoxAt w8 b8 #[.int .i64 zk, .slice AL nL cL, .slice Ak nk ck, .int .i64 nx, .slice AB nB cB, .slice AO nO cO, .int .i64 ca, .slice AN nN cN, .int .i64 ri, .slice AM nM cM] 29 := by rw [hw8, hb8]; exact BoxAt.new _ _ _
 have L8 := (L6.out.on hn7).on hn8
 have B8 := next_below (next_below B6.out hn7) hn8
 have HB8 : Hid (w6.heap.size ≤ b8) := by unfold Hid; rw [hb8]; exact hn7.size
 have V8 : ObjAt w8 (fun x => x < w6.heap.size) vs oSeg := hv.on hn8 fun _ _ h => h
 have J4 := live_bytes (HE.out.on B8) L8 (by omega) (Nat.le_trans first_bytes (by decide))
 have J4 := Lib.hid J4
 have L8 := Lib.hid L8
 have B8 := Lib.hid B8
 have V8 := Lib.hid V8
 have X8 := Lib.hid X8
 have HVS := Lib.hid hvs
 clear hv hvk7 hsl7 hn7 hn8 hvs J3
 go_wp2_with fail
 rw [← hw8, ← hb8]
 clear hw8 hb8
 refine J4.out.mono ?_
 rintro e w9 ⟨A9, c9, rfl, r1, r2, r3, r4, r5, r6⟩
 have L9 := L8.out.on r6
 have B9 := next_below B8.out r6
 have J5 := live_load (c := c9) (HE.out.on B9) r1 L9.sml r3 (by have := first_bytes; omega)
 have J5 := Lib.hid J5
 have L9 := Lib.hid L9
 have B9 := Lib.hid B9
 have V9 := Lib.hid (V8.out.on r6 fun _ _ h => h)
 have X9 := Lib.hid (X8.out.on r6)
 clear r1 r2 r3 r4 r5 r6 J4
 go_wp2_with fail
 refine J5.out.mono ?_
 rintro e w10 ⟨hn10, ⟨Lx, tu, Fu, nu, hx, hnu, rfl, hu⟩ | ⟨hno, _⟩⟩
 case inr => exact absurd ⟨tab1, first_val, rfl⟩ hno
 have hLx : Lx = tab1 := (tabBytes_inj first_val hu.val L9.out.sml hx).symm
 subst hLx
 have L10 := L9.out.on hn10
 have B10 := next_below B9.out hn10
 obtain ⟨w11, hw11⟩ : ∃ W, W = w10.alloc (.cells #[.int .i64 0] 3) := ⟨_, rfl⟩
 obtain ⟨b11, hb11⟩ : ∃ b, b = w10.heap.size := ⟨_, rfl⟩
 have hn11 : Below w10.heap.size w10 w11 := by rw [hw11]; exact (Below.refl _ _).alloc (Nat.le_refl _) _
 have hp11 : Pa.PL w11 (some ⟨b11, 0, none⟩) 1 [0] := by rw [hw11, hb11]; exact zero_path w10
 have B11 := next_below B10 hn11
 have L11 := L10.on hn11
 have hF11 := L9.out.lt
 have h910 := hn10.size
 have J6 := live_remove (HE.out.on B11) H8 B11.size L11 (by omega) hp11 (fun _ => ⟨b11, 0, rfl, fun h => by have := hF11 _ h; omega, by rw [hw11, hb11]; simp, fun k u hu => by
  have hk : k < 1 := (List.getElem?_eq_some_iff.1 hu).1
  match k, hk, hu with
  | 0, _, hu => rw [hw11, hb11]; simp [Pa.zCellsOf] at hu ⊢; exact hu⟩) (by simp)
 rw [first_rem] at J6
 have J6 := Lib.hid J6
 have U11 := Lib.hid (hu.on hn11)
 have L11 := Lib.hid L11
 have B11 := Lib.hid B11
 have V11 := Lib.hid ((V9.out.on hn10 fun _ _ h => h).on hn11 fun _ _ h => h)
 have X11 := Lib.hid ((X9.out.on hn10).on hn11)
 have HN := Lib.hid (show nu ≤ 65536 from hnu)
 have HF := Lib.hid hF11
 clear hu hx hnu hn10 hn11 hp11 hF11 B10 L10 J5
 go_wp2_with fail
 rw [← hw11, ← hb11]
 clear hw11 hb11
 refine J6.out.mono ?_
 rintro e w12 ⟨rfl, hlv12⟩
 have hb12 := hlv12.below L11.out B11.out.size
 have U12 := U11.out.leaves L9.out (Nat.le_refl _) hlv12
 obtain ⟨F12, L12, hs12⟩ := hlv12
 have B12 := B11.out.trans hb12
 have X12 := X11.out.kp hs12.1 fun h => by have := HF6.out _ h; have := HB8.out; omega
 have V12 : ObjAt w12 No vs oSeg := V11.out.kp hs12.1 (fun b _ h => HF6.out b h) fun _ _ h => h.elim
 have q12 : (convert 25 9 (.slice AB nB cB)).run Tryz.prog w12 = .ok (.string ⟨#[97, 98, 99]⟩) w12 := by
  have hv := V12
  rw [HVS.out] at hv
  obtain ⟨vk, ⟨vl, vb, vo, ve, vm, e, -, ⟨A, c, e2, -, -, hsl⟩, -⟩, -⟩ := hv
  injection e with e
  simp only [Array.mk.injEq, List.cons.injEq] at e
  obtain ⟨-, -, -, -, e3, -⟩ := e
  rw [← e3] at e2
  injection e2 with e4 e5 e6
  subst e4 e5 e6
  exact Tp.conv_str hsl.bts cB
 obtain ⟨w13, hw13⟩ : ∃ W, W = w12.alloc (.cells #[.int .i64 0] 3) := ⟨_, rfl⟩
 obtain ⟨b13, hb13⟩ : ∃ b, b = w12.heap.size := ⟨_, rfl⟩
 have hn13 : Below w12.heap.size w12 w13 := by rw [hw13]; exact (Below.refl _ _).alloc (Nat.le_refl _) _
 have hp13 : Pa.PL w13 (some ⟨b13, 0, none⟩) 1 [0] := by rw [hw13, hb13]; exact zero_path w12
 have B13 := next_below B12 hn13
 have J7 := live_quota (HE.out.on B13) (U12.on hn13).live hp13 (by simp)
 rw [first_quota] at J7
 have J7 := Lib.hid J7
 obtain ⟨k0, k1, k2, k3, k4, k5, k6, k7, k8, k9⟩ := box10 X12
 have U13 := Lib.hid (U12.on hn13)
 have L13 := Lib.hid (L12.on hn13)
 have B13 := Lib.hid B13
 have V13 := Lib.hid (V12.read hn13)
 have X13 := Lib.hid (X12.on hn13)
 clear U12 L12 hs12 B12 X12 V12 hn13 hp13 hb12 J6
 go_wp2_with fail
 rw [← hw13, ← hb13]
 clear hw13 hb13
 clear q12 k0 k1 k2 k3 k4 k5 k6 k7 k8 k9
 refine J7.out.mono ?_
 rintro e w14 ⟨rfl, hn14⟩
 have B14 := next_below B13.out hn14
 have J8 := Lib.hid (live_paths (HE.out.on B14) (U13.out.on hn14).live (by have := HN.out; omega))
 have L14 := Lib.hid (L13.out.on hn14)
 have V14 := Lib.hid (V13.out.read hn14)
 have X14 := Lib.hid (X13.out.on hn14)
 have B14 := Lib.hid B14
 clear hn14 J7
 go_wp2_with fail
 refine J8.out.mono ?_
 rintro e w15 ⟨hn15, v15, rfl, hps⟩
 obtain ⟨A15, c15, rfl, -⟩ := hps
 rw [show (tab1.map Prod.fst).length = 2 from rfl]
 have B15 := next_below B14.out hn15
 have J9 := Lib.hid (live_paths (HE.out.on B15) (L14.out.on hn15) (by omega))
 have V15 := Lib.hid (V14.out.read hn15)
 have X15 := Lib.hid (X14.out.on hn15)
 have B15 := Lib.hid B15
 clear hn15 J8
 go_wp2_with fail
 refine J9.out.mono ?_
 rintro e w16 ⟨hn16, v16, rfl, hps⟩
 obtain ⟨A16, c16, rfl, -⟩ := hps
 rw [List.length_map, first_left]
 have B16 := next_below B15.out hn16
 have V16 := V15.out.read hn16
 have J10 := uses_any V16 oSeg_wide oSeg_ok.kids
 rw [first_uses, HVS.out] at J10
 have J10 := Lib.hid J10
 have X16 := X15.out.on hn16
 obtain ⟨k0, k1, k2, k3, k4, k5, k6, k7, k8, k9⟩ := box10 X16
 have V16 := Lib.hid V16
 have X16 := Lib.hid X16
 have B16 := Lib.hid B16
 clear hn16 J9
 go_wp2_with fail
 clear k0 k1 k2 k3 k4 k5 k6 k7 k8 k9
 refine J10.out.mono ?_
 rintro e w17 ⟨rfl, hn17⟩
 have B17 := next_below B16.out hn17
 have J11 := right_any9 (HE.out.on B17) (V16.out.read hn17) oSeg_wide
 rw [decide_eq_true oSeg_ok, HVS.out] at J11
 have J11 := Lib.hid J11
 have X17 := X16.out.on hn17
 obtain ⟨k0, k1, k2, k3, k4, k5, k6, k7, k8, k9⟩ := box10 X17
 have B17 := Lib.hid B17
 clear hn17 X17 J10
 go_wp2_with fail
 refine J11.out.mono ?_
 rintro e w18 ⟨rfl, hn18⟩
 have B18 := Lib.hid (next_below B17.out hn18)
 clear hn18
 go_wp2_with fail
 go_ret
 exact ⟨rfl, B18.out⟩
end Go.Proofs.YtgcbfggoddkhnaaGreatDoor
namespace Go.Proofs.YtgcbfggoddkhnaaGreatDoor
open Go.RowKit
theorem PthsAt.kp {S : Nat → Prop} {w w' : World} {base : Nat} {v : Value} {W : List (List Int)} (h : PthsAt w base v W) (hk : Tp.Kp S w w') (hS : ∀ b, S b → b < base) : PthsAt w' base v W := by
 obtain ⟨A, c, h1, h2⟩ := h
 refine ⟨A, c, h1, fun hp => ?_⟩
 obtain ⟨b, o, h3, h0, h4, h5⟩ := h2 hp
 refine ⟨b, o, h3, h0, Nat.lt_of_lt_of_le h4 hk.size, fun i x hx => ?_⟩
 obtain ⟨u, h6, h7⟩ := h5 i x hx
 exact ⟨u, hk.cell (p := ⟨b, o + i, none⟩) h6 fun e => by have := hS _ e; simp at this; omega, h7.kp hk (fun b _ e => hS b e) fun _ _ h => h⟩
theorem bts_more {w : World} {B B' : Nat} {A : Option Addr} {l : List Nat} (h : Tp.Bts w B A l) (hB : B ≤ B') : Tp.Bts w B' A l := fun hp => by
 obtain ⟨b, o, h1, h2, h3⟩ := h hp
 exact ⟨b, o, h1, Nat.lt_of_lt_of_le h2 hB, h3⟩
theorem pl_sl {w W : World} {F : Nat → Prop} {A : Option Addr} {c : Nat} {p : List Int} (h : Pa.PL w A c p) (hb : Below w.heap.size w W) (hF : ∀ b, F b → w.heap.size ≤ b) : Sl W F A (Pa.zCellsOf p) := fun hp => by
 obtain ⟨b, o, h1, h2, h3⟩ := h.zs (by simpa [Pa.zCellsOf] using hp)
 refine ⟨b, o, h1, fun e => by have := hF b e; omega, Nat.lt_of_lt_of_le h2 hb.size, fun k u hu => ?_⟩
 unfold Pa.zCellsOf at hu
 rw [List.getElem?_map] at hu
 cases hx : p[k]? with
 | none => rw [hx] at hu; cases hu
 | some x =>
  rw [hx] at hu
  injection hu with hu
  subst hu
  exact (hb.cell (p := ⟨b, o + k, none⟩) h2).trans (h3 k x hx)
def RvRel (w5 : World) (N k : Nat) (i : Value) (wr : World) : Prop :=
 ∃ m, m + k = N ∧ i = .int .i64 (m : Int) ∧ Below w5.heap.size w5 wr
end Go.Proofs.YtgcbfggoddkhnaaGreatDoor
namespace Go.Proofs.YtgcbfggoddkhnaaGreatDoor.Pa
open Go.RowKit
set_option maxRecDepth 100000 in
theorem refPutL_any {w : World} {A : Option Addr} {c : Nat} {l : List Int} (hl : Zs w w.heap.size A l) (hn : l.length ≤ 1048576) :
  Calls Tryz.prog 49 #[.slice A l.length c] w (RetB w (.string (Tp.str (zBytes l)))) := by
 have HL := Lib.hid hl
 have HN := Lib.hid (Tp.ref_number l.length (by omega) w)
 have HGL := Lib.hid (Tp.enc_nine (n := l.length) (by omega))
 clear hl
 go_enter Tryz.func49, Tryz.ntmps49
 go_wp2_with fail
 refine HN.out.mono ?_
 rintro e w1 ⟨rfl, hb1⟩
 have B1 := Lib.hid hb1
 clear hb1 HN
 go_wp2_with fail
 go_loopg [3, 11] l.length (fun k s i wr => RpRel w l k s i wr)
 case atStart => exact ⟨0, by simp, rfl, by simp, B1.out⟩
 case round =>
  obtain ⟨m, hmk, hi, hs, hb⟩ := hrel
  subst hi hs
  have HB := Lib.hid hb
  cases gk with
  | zero =>
   have hge : l.length ≤ m := by omega
   rw [List.take_of_length_le hge]
   clear hb
   go_wp2_with fail
   go_ret
   exact ⟨rfl, HB.out⟩
  | succ j =>
   have hm : m < l.length := by omega
   obtain ⟨z, hx⟩ : ∃ x, l[m]? = some x := ⟨_, List.getElem?_eq_getElem hm⟩
   obtain ⟨b, o, rfl, hlt, hcells⟩ := (HL.out.below hb) (by omega)
   have c1 := hcells m z hx
   have HM := Lib.hid hmk
   have hsz := hb.size
   obtain ⟨pb, hpb⟩ : ∃ pb, pb = Tp.enc l.length ++ (l.take m).flatMap encZ := ⟨_, rfl⟩
   rw [← hpb]
   have hpl : pb.length ≤ 60000000 := by
     have h1 := HGL.out
     have h2 := flatZ_len (l.take m)
     rw [List.length_take] at h2
     rw [hpb, List.length_append]
     omega
   have HPB : Hid (Tp.enc l.length ++ (l.take (m + 1)).flatMap encZ = pb ++ encZ z) := by
     unfold Hid
     rw [take_snoc hx, List.flatMap_append, hpb]
     simp
   by_cases h0 : 0 ≤ z
   · by_cases h1 : z ≤ 4611686018427387903
     · have e : encZ z = Tp.enc z.toNat := by unfold encZ; rw [if_pos ⟨h0, h1⟩]
       have ez : ((z.toNat : Nat) : Int) = z := by omega
       have H41 := Tp.ref_number z.toNat (by omega) wr
       rw [ez] at H41
       have H41 := Lib.hid H41
       rw [e] at HPB
       obtain ⟨q, hq⟩ : ∃ q, q = Tp.enc z.toNat := ⟨_, rfl⟩
       rw [← hq] at H41 HPB
       have hql : q.length ≤ 9 := by rw [hq]; exact Tp.enc_nine (by omega)
       have a1 : ∀ W : World, (Op.stringOp .add (Tp.str pb) (Tp.str q)).run Tryz.prog W = .ok (.string (Tp.str (pb ++ q))) W := fun W => by
        rw [← Tp.str_append]
        exact Tp.add_str W (by rw [Tp.str_size]; omega) (by rw [Tp.str_size]; omega)
       clear hcells hx hmk hb hpb e ez hq
       go_wp2_with fail
       refine H41.out.mono ?_
       rintro e w2 ⟨rfl, hb2⟩
       have B2 : Hid (Below w.heap.size w w2) := HB.out.trans (hb2.mono hsz)
       clear hb2 H41 c1
       go_wp2_with fail
       go_roundg j
       case measure => omega
       case rel => exact ⟨m + 1, by have := HM.out; omega, by go_num, by rw [HPB.out], B2.out⟩
     · have e : encZ z = [] := by unfold encZ; rw [if_neg (by omega)]
       rw [e, List.append_nil] at HPB
       clear hcells hx hmk hb hpb e
       go_wp2_with fail
       go_roundg j
       case measure => omega
       case rel => exact ⟨m + 1, by have := HM.out; omega, by go_num, by rw [HPB.out], HB.out⟩
   · have e : encZ z = [] := by unfold encZ; rw [if_neg (by omega)]
     rw [e, List.append_nil] at HPB
     clear hcells hx hmk hb hpb e
     go_wp2_with fail
     go_roundg j
     case measure => omega
     case rel => exact ⟨m + 1, by have := HM.out; omega, by go_num, by rw [HPB.out], HB.out⟩
theorem zs_on {w W : World} {A : Option Addr} {l : List Int} (h : Zs w w.heap.size A l) (hb : Below w.heap.size w W) : Zs W W.heap.size A l := fun hp => by
 obtain ⟨b, o, h1, h2, h3⟩ := h hp
 exact ⟨b, o, h1, Nat.lt_of_lt_of_le h2 hb.size, fun k x hx => (hb.cell (p := ⟨b, o + k, none⟩) h2).trans (h3 k x hx)⟩
end Go.Proofs.YtgcbfggoddkhnaaGreatDoor.Pa
