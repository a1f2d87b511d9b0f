/- Lemmas for the law: Zy, Yj, Yk, Yl, Zz. -/
import Derived.Test.YtgcbfggoddkhnaaGreatDoorM20
import Derived.Test.YtgcbfggoddkhnaaGreatDoorM17
import Derived.Test.YtgcbfggoddkhnaaGreatDoorM14
import Derived.Test.YtgcbfggoddkhnaaGreatDoorM18
namespace Go.Proofs.YtgcbfggoddkhnaaGreatDoor
open Go.RowKit
open Pa (encZ zBytes)
theorem snoc_ind {α : Type} {P : List α → Prop} (h0 : P []) (h1 : ∀ xs x, P xs → P (xs ++ [x])) (xs : List α) : P xs := by
  have h : ∀ ys : List α, P ys.reverse := fun ys => by
    induction ys with
    | nil => exact h0
    | cons y r ih => rw [List.reverse_cons]; exact h1 _ _ ih
  have := h xs.reverse
  rwa [List.reverse_reverse] at this
def ldT (xs : Tab) : TT := xs.foldl (fun T x => updT T (Pa.zText x.1) x.2) fun _ => none
def ldL (xs : Tab) : Tab := xs.foldl (fun L x => lay L x.1 x.2) []
theorem ldT_snoc (xs : Tab) (x : Item) : ldT (xs ++ [x]) = updT (ldT xs) (Pa.zText x.1) x.2 := by simp [ldT]
theorem ldL_snoc (xs : Tab) (x : Item) : ldL (xs ++ [x]) = lay (ldL xs) x.1 x.2 := by simp [ldL]
theorem lay_bytes (f : Item → List Nat) (p : List Int) (o : Ob) : ∀ L : Tab, ((lay L p o).flatMap f).length ≤ (L.flatMap f).length + (f (p, o)).length
  | [] => by simp [lay]
  | x :: r => by
    have ih := lay_bytes f p o r
    unfold lay
    split
    · simp only [List.flatMap_cons, List.length_append]; omega
    · split
      · simp only [List.flatMap_cons, List.length_append]; omega
      · simp only [List.flatMap_cons, List.length_append]; omega
theorem isT_none : IsT (fun _ => none) [] := ⟨fun p => rfl, fun s o h => by cases h⟩
theorem ld_ok (xs : Tab) : Asc (ldL xs) ∧ IsT (ldT xs) (ldL xs) ∧ (∀ x ∈ ldL xs, x ∈ xs) ∧ (ldL xs).length ≤ xs.length ∧ ((ldL xs).flatMap itemBytes).length ≤ (xs.flatMap itemBytes).length := by
  induction xs using snoc_ind with
  | h0 => exact ⟨List.Pairwise.nil, isT_none, fun x h => h, Nat.le_refl _, Nat.le_refl _⟩
  | h1 xs x ih =>
    obtain ⟨h1, h2, h3, h4, h5⟩ := ih
    rw [ldL_snoc, ldT_snoc]
    refine ⟨lay_asc h1 _ _, h2.upd h1 _ _, fun y hy => ?_, ?_, ?_⟩
    · rcases lay_key hy with e | e
      · exact List.mem_append_right _ (by rw [e]; simp)
      · exact List.mem_append_left _ (h3 y e)
    · have := lay_len (ldL xs) x.1 x.2
      rw [List.length_append, List.length_singleton]
      omega
    · have := lay_bytes itemBytes x.1 x.2 (ldL xs)
      have e : (itemBytes (x.1, x.2)).length = (itemBytes x).length := rfl
      rw [List.flatMap_append, List.length_append]
      simp only [List.flatMap_cons, List.flatMap_nil, List.append_nil]
      omega
theorem ld_mem {xs : Tab} (hA : Asc xs) : ∀ x, x ∈ ldL xs ↔ x ∈ xs := by
  induction xs using snoc_ind with
  | h0 => exact fun x => Iff.rfl
  | h1 xs x ih =>
    intro y
    obtain ⟨h1, _, h2⟩ := List.pairwise_append.1 hA
    rw [ldL_snoc, lay_mem (ld_ok xs).1, ih h1 y, List.mem_append, List.mem_singleton]
    constructor
    · rintro (h | ⟨h, _⟩)
      · exact .inr h
      · exact .inl h
    · rintro (h | h)
      · exact .inr ⟨h, cmpZ_ne (h2 y h x (by simp))⟩
      · exact .inl h
theorem ld_asc {xs : Tab} (hA : Asc xs) : ldL xs = xs := asc_ext (ld_ok xs).1 hA (ld_mem hA)
theorem sum_quotas (f : Kd → Nat) : ∀ ks : List Kd, (∀ k ∈ ks, 16 * (f k : Int) ≤ k.2.2) → 16 * (((ks.map f).sum : Nat) : Int) ≤ quotas ks
  | [], _ => by simp [quotas]
  | k :: r, h => by
    have h1 := h k (by simp)
    have h2 := sum_quotas f r fun x hx => h x (by simp [hx])
    simp only [List.map_cons, List.sum_cons, quotas]
    omega
theorem ValT.cnt16 {L : Tab} (h : ValT L) : ∀ (n : Nat) (q : List Int) (o : Ob), fnd L q = some o → 7 ≤ q.length + n → 16 * (cnt L q : Int) ≤ uses o
  | 0, q, o, hq, hn => by
    have := (h.pathAt hq).1
    omega
  | n + 1, q, o, hq, hn => by
    have h1 := sum_quotas (fun k => cnt L (q ++ [k.1])) o.kids fun k hk => by
      obtain ⟨d, hd, _, _, hu⟩ := h.kid hq hk
      have := ValT.cnt16 h n (q ++ [k.1]) d hd (by rw [List.length_append, List.length_singleton]; omega)
      omega
    rw [h.cnt_split hq]
    unfold uses
    omega
theorem ValT.len {L : Tab} (h : ValT L) : L.length ≤ 65536 := by
  obtain ⟨r, hr, _⟩ := h.root
  have h1 := h.cnt16 7 [] r hr (by simp)
  have h2 := (quotaP_le h hr).2
  have h3 := h.quota hr
  have h4 : cnt L [] = L.length := by
    unfold cnt
    rw [List.countP_eq_length]
    intro x _
    simp
  rw [h4] at h1
  omega
theorem cat_len80 {x : List UInt8} (h : (catOf x).isSome = true) : x.length ≤ 80 := by
  cases hc : catOf x with
  | none => rw [hc] at h; cases h
  | some p =>
    obtain ⟨⟨⟨hl, hp⟩, hn⟩, hx⟩ := catOf_iff.1 hc
    have h2 := path_len p.1 hp
    have h3 := dec_len7 (u := p.2) (by omega)
    rw [hx]
    unfold catText
    rw [List.length_append, List.length_cons]
    omega
theorem right_len80 {l : List Ent} (h : RightL l) : (l.length : Int) ≤ 8 ∧ ∀ e ∈ l, e.1.length ≤ 80 ∧ 0 ≤ e.2 ∧ e.2 ≤ 3 :=
  ⟨by have := h.1; omega, fun e he => by
    have h1 := entErr_zero.1 (h.2.1 e he).1
    exact ⟨cat_len80 h1.1, h1.2⟩⟩
theorem ObOk.readO {o : Ob} (h : ObOk o) (hs : Tp.Sml o.bytes) : ReadO o where
  kind := by have := h.kind; omega
  lab := right_len80 h.lab
  kids := ⟨by have := h.kids.1; omega, fun k hk => by
    have h1 := h.kids.2.1 k hk
    have h2 := h.next
    unfold KidOk at h1
    omega⟩
  next := h.next
  bytes := ⟨by have := h.bytes; omega, hs⟩
  own := ⟨by have := h.own.1; omega, fun x hx => cat_len80 (h.own.2.2 x hx)⟩
  cats := h.cats
  entry := right_len80 h.entry
  ring := h.ring
  maps := ⟨by have := h.maps.1; omega, fun m hm => by
    have h1 := h.maps.2.1 m hm
    exact ⟨h1.1, h1.2, trivial⟩⟩
theorem sml_tab {L : Tab} (hs : Tp.Sml (tabBytes L)) : ∀ x ∈ L, Tp.Sml x.2.bytes := fun x hx c hc => hs c (by
  unfold tabBytes
  refine List.mem_append_right _ (List.mem_flatMap.2 ⟨x, hx, ?_⟩)
  simp [itemBytes, obBytes, hc])
noncomputable def ldN (l : List Nat) : Nat := (nS 65536 (l, true)).1.toNat
noncomputable def ldS (l : List Nat) (m : Nat) : St := (many itemS m (nS 65536 (l, true)).2).2
noncomputable def ldX (l : List Nat) (m : Nat) : Tab := (many itemS m (nS 65536 (l, true)).2).1
theorem ldX_succ (l : List Nat) (m : Nat) : ldX l (m + 1) = ldX l m ++ [(itemS (ldS l m)).1] := by simp only [ldX, ldS, many]
theorem ldS_succ (l : List Nat) (m : Nat) : ldS l (m + 1) = (itemS (ldS l m)).2 := by simp only [ldS, many]
theorem ldX_len (l : List Nat) (m : Nat) : (ldX l m).length = m := many_len _ _ m
theorem ldS_sml {l : List Nat} (hs : Tp.Sml l) (m : Nat) : Tp.Sml (ldS l m).1 ∧ (ldS l m).1.length ≤ l.length := by
  have h1 := (nS_reads (most := 65536) (by omega)).sml (s := (l, true)) hs
  have h2 := (nS_reads (most := 65536) (by omega)).len (l, true)
  have h3 := many_sml itemS_reads h1 m
  exact ⟨h3.1, Nat.le_trans h3.2 h2⟩
theorem ldN_le (l : List Nat) : ldN l ≤ 65536 := by
  have := Pa.numStep_reach l true (most := 65536) (by omega)
  unfold ldN nS
  simp only
  omega
theorem ld_good {l : List Nat} (hs : Tp.Sml l) : ∀ m, (∀ j, j < m → goodI (ldS l j)) → ((ldX l m).flatMap itemBytes).length + (ldS l m).1.length ≤ l.length ∧ ∀ x ∈ ldX l m, Pa.PathOk x.1 ∧ ReadO x.2
  | 0, _ => ⟨by have := (ldS_sml hs 0).2; show 0 + _ ≤ _; omega, fun x h => by cases h⟩
  | m + 1, h => by
    obtain ⟨h1, h2⟩ := ld_good hs m fun j hj => h j (by omega)
    obtain ⟨_, h3, h4⟩ := itemS_reads.sound (ldS l m) (ldS_sml hs m).1 (h m (by omega)).1
    rw [ldX_succ, ldS_succ]
    constructor
    · rw [h3, List.length_append] at h1
      rw [List.flatMap_append, List.length_append]
      simp only [List.flatMap_cons, List.flatMap_nil, List.append_nil]
      omega
    · intro x hx
      rcases List.mem_append.1 hx with hx | hx
      · exact h2 x hx
      · rw [List.mem_singleton] at hx
        rw [hx]
        exact h4
theorem ReadO.wide {o : Ob} (h : ReadO o) : WideO o where
  kind := by have := h.kind; unfold W64; omega
  next := by have := h.next; unfold W64; omega
  cats := by have := h.cats; unfold W64; omega
  ring := by have := h.ring; unfold W64; omega
  lab := ⟨by have := h.lab.1; omega, fun e he => by have := h.lab.2 e he; unfold W64; omega⟩
  entry := ⟨by have := h.entry.1; omega, fun e he => by have := h.entry.2 e he; unfold W64; omega⟩
  bytes := ⟨by have := h.bytes.1; omega, h.bytes.2⟩
  own := ⟨by have := h.own.1; omega, fun x hx => by have := h.own.2 x hx; omega⟩
  kids := ⟨by have := h.kids.1; omega, fun k hk => by have := h.kids.2 k hk; unfold W64; omega⟩
  maps := ⟨by have := h.maps.1; omega, fun m hm => by
    have h1 := (h.maps.2 m hm).1
    have h2 := (h.maps.2 m hm).2.1
    exact ⟨by unfold W64; omega, by have := h2.1; omega, h2.wide⟩⟩
theorem ld_full {l : List Nat} {L : Tab} (hs : Tp.Sml l) (hL : ValT L) (h : l = tabBytes L) : ldN l = L.length ∧ (∀ j, j < L.length → goodI (ldS l j)) ∧ ldX l L.length = L := by
  have hs2 := sml_tab (L := L) (by rw [← h]; exact hs)
  have hlen := hL.len
  have hP : ∀ x ∈ L, Pa.PathOk x.1 ∧ ReadO x.2 := fun x hx => ⟨hL.path x hx, (hL.ob x hx).readO (hs2 x hx)⟩
  have h1 := (nS_reads (most := 65536) (by omega)).full (L.length : Int) (L.flatMap itemBytes) (by omega)
  have hq : encZ (L.length : Int) = Tp.enc L.length := by unfold encZ; rw [if_pos (by omega)]; simp
  rw [hq, show Tp.enc L.length ++ L.flatMap itemBytes = l from h.symm] at h1
  have h2 : ∀ m, m ≤ L.length → many itemS m (nS 65536 (l, true)).2 = (L.take m, (L.drop m).flatMap itemBytes ++ [], true) := fun m hm => by
    rw [h1]
    have := many_full itemS_reads L [] hP m hm
    rwa [List.append_nil] at this
  refine ⟨by unfold ldN; rw [h1]; simp, fun j hj => ?_, by unfold ldX; rw [h2 _ (Nat.le_refl _), List.take_length]⟩
  have h3 : ldS l j = (itemBytes L[j] ++ ((L.drop (j + 1)).flatMap itemBytes ++ []), true) := by
    unfold ldS
    rw [h2 j (by omega), List.drop_eq_getElem_cons hj, List.flatMap_cons, List.append_assoc]
  have h4 := itemS_reads.full L[j] ((L.drop (j + 1)).flatMap itemBytes ++ []) (hP _ (List.getElem_mem hj))
  have h5 := hL.ob _ (List.getElem_mem hj)
  unfold goodI
  rw [h3, h4]
  exact ⟨rfl, h5.lab, h5.own, h5.entry⟩
theorem tabBytes_inj {L M : Tab} (hL : ValT L) (hM : ValT M) (hs : Tp.Sml (tabBytes L)) (h : tabBytes L = tabBytes M) : L = M := by
  obtain ⟨h1, _, h2⟩ := ld_full hs hL rfl
  obtain ⟨h3, _, h4⟩ := ld_full hs hM h
  rw [← h2, ← h1, h3, h4]
theorem ld_sound {l : List Nat} {T : TT} {n : Nat} (hT : T = ldT (ldX l n)) (hv : ValidT T) : ValT (ldL (ldX l n)) ∧ IsT T (ldL (ldX l n)) := by
  obtain ⟨h1, h2, _⟩ := ld_ok (ldX l n)
  rw [hT] at hv ⊢
  exact ⟨valT_of h2 h1 hv, h2⟩
theorem ld_valid {l : List Nat} {L : Tab} (hs : Tp.Sml l) (hL : ValT L) (h : l = tabBytes L) : ValidT (ldT (ldX l (ldN l))) ∧ ldL (ldX l (ldN l)) = L := by
  obtain ⟨h1, _, h3⟩ := ld_full hs hL h
  rw [h1, h3]
  have h4 := (ld_ok L).2.1
  rw [ld_asc hL.asc] at h4
  exact ⟨validT_of h4 hL, ld_asc hL.asc⟩
end Go.Proofs.YtgcbfggoddkhnaaGreatDoor

namespace Go.Proofs.YtgcbfggoddkhnaaGreatDoor
open Go.RowKit
theorem RetAllot.done {w w' : World} {F : Nat → Prop} {t n : Nat} {T : TT} {p : List Int} {q : Int} {e : Ending} (hz : allotR T p q = 0) (he : e = .returned (.int .i64 0)) (h : ∃ F', TabAt w' F' t (n + 1) (allotT T p q) ∧ Stp w F w' F') : RetAllot w F t n T p q e w' := by
  refine ⟨by rw [hz]; exact he, ?_⟩
  rw [if_pos hz]
  exact h
set_option maxRecDepth 100000 in
set_option maxHeartbeats 16000000 in
theorem allot_deep {w : World} {F : Nat → Prop} {t bm n : Nat} {T : TT} {V K : List UInt8 → Value} {L : Tab} {A : Option Addr} {c : Nat} {p ys : List Int} {z q : Int} {o b : Ob} (he : Env w) (hti : TabIs w F t bm n T V K) (hI : IsT T L) (hL : ValT L) (hn : n ≤ 10000000000) (hp : Pa.PL w A c p) (hpl : p.length ≤ 10000000) (hpz : p = ys ++ [z]) (ho : T (Pa.zText p) = some o) (hb : T (Pa.zText ys) = some b) (hq : 0 ≤ q ∧ q ≤ 1048576) :
    Calls Tryz.prog 36 #[.pointer (some ⟨t, 0, none⟩), .slice A p.length c, .int .i64 q] w (RetAllot w F t n T p q) := by
  have hfo : fnd L p = some o := by rw [← hI.at']; exact ho
  have hfb : fnd L ys = some b := by rw [← hI.at']; exact hb
  have hook := hL.obAt hfo
  have hbok := hL.obAt hfb
  have hwb := hti.wide _ _ hb
  have hwo := hti.wide _ _ ho
  obtain ⟨k0, hk0, hk1⟩ : ∃ k ∈ b.kids, k.1 = z := by
    rw [hpz] at hfo
    obtain ⟨c', hc', k, hk, hk1, _⟩ := hL.entry hfo
    rw [hfb] at hc'
    cases hc'
    exact ⟨k, hk, hk1⟩
  have hyl : ys.length ≤ 10000000 := by have := congrArg List.length hpz; simp at this; omega
  have hywide : Pa.WideZ ys := fun x hx => hp.wide x (by rw [hpz]; exact List.mem_append_left _ hx)
  have hlen : (Pa.zText ys).length ≤ 100000000000 := by have := Pa.zText_len hywide; omega
  obtain ⟨vb, hvb⟩ : ∃ v, v = V (Pa.zText ys) := ⟨_, rfl⟩
  obtain ⟨kb, hkb⟩ : ∃ v, v = K (Pa.zText ys) := ⟨_, rfl⟩
  have hobk : ObjK w F vb kb b := by rw [hvb, hkb]; exact hti.ob _ _ hb
  have hrow : w.ownsRow 0 85 3 kb b.kids.length (kidCells b.kids) := by rw [hkb]; exact hti.row _ _ hb
  have hkbs : SlV w No kb b.kids.length (kidCells b.kids) := (slv_row hrow).on (Below.refl _ _) fun x _ hx => hx.elim
  have hbat : ObjAt w No vb b := ⟨kb, hobk.on (Below.refl _ _) (fun _ _ h => h.elim), hkbs⟩
  have H75 : Hid (Calls Tryz.prog 75 #[.pointer (some ⟨t, 0, none⟩), .slice A p.length c] w (fun e w' => Below w.heap.size w w' ∧ ∃ v, e = .returned (.tuple #[v, .bool true]) ∧ ObjAt w' No v o)) := by
    have h := find_read he (hti.read (Below.refl _ _)) hp hpl
    unfold RetFind atT at h
    rw [ho] at h
    exact h.mono fun e w' ⟨h1, v, h2, h3, _⟩ => ⟨h1, v, h2, h3⟩
  have R80 : Hid (∀ W, Below w.heap.size w W → Calls Tryz.prog 80 #[.slice A p.length c] W fun e w' => Below W.heap.size W w' ∧ ∃ A3 c3, e = .returned (.tuple #[.slice A3 ys.length c3, .int .i64 z, .bool true]) ∧ Pa.PL w' A3 c3 ys) := fun W hW => by
    refine (Pa.parent_any (hp.on hW) hpl).mono ?_
    rintro e w' ⟨h1, ⟨h2, _⟩ | ⟨ys', z', v, h2, rfl, hr⟩⟩
    · rw [hpz] at h2; simp at h2
    · obtain ⟨e1, e2⟩ := snoc_inj (hpz.symm.trans h2)
      subst e1 e2
      obtain ⟨A3, c3, rfl, hpl3⟩ := hr.pl hywide
      exact ⟨h1, A3, c3, rfl, hpl3⟩
  have R60 := Lib.hid (fun W => within_any q 1048576 W)
  rw [decide_eq_true hq] at R60
  have R75 : Hid (∀ W A3 c3, Below w.heap.size w W → Pa.PL W A3 c3 ys → Calls Tryz.prog 75 #[.pointer (some ⟨t, 0, none⟩), .slice A3 ys.length c3] W (RetB W (.tuple #[vb, .bool true]))) := fun W A3 c3 hW h3 => by
    have e1 : lookV T V (Pa.zText ys) = vb := by unfold lookV; rw [hb, hvb]
    have e2 : (T (Pa.zText ys)).isSome = true := by rw [hb]; rfl
    have h := find_any (he.on hW) (hti.on hW).var (hti.on hW).map h3 hyl (by rw [e1]; exact hbat.shape)
    rw [e1, e2] at h
    exact h
  have R40 : Hid (∀ W, Below w.heap.size w W → Calls Tryz.prog 40 #[kb] W (RetCells W 85 3 b.kids.length (kidCells b.kids))) := fun W hW => clone40_any (F := No) (hkbs.on hW fun _ _ h => h.elim) (kidCells_length _) (kidCells_one _) (by have := hbok.kids.1; omega)
  have R28 : Hid (∀ W A3 c3, Below w.heap.size w W → Pa.PL W A3 c3 ys → Calls Tryz.prog 28 #[.pointer (some ⟨t, 0, none⟩), .slice A3 ys.length c3] W (RetB W (.int .i64 (quotaP (atP T) ys)))) := fun W A3 c3 hW h3 => quota_any (he.on hW) (hti.read hW) h3 hyl
  have R68 : Hid (∀ W A3 c3, Below w.heap.size w W → Pa.PL W A3 c3 ys → Calls Tryz.prog 68 #[.slice A3 ys.length c3] W (RetB W (.string (str (Pa.zText ys))))) := fun W A3 c3 hW h3 => Pa.text_any (he.on hW) h3.zs h3.wide hyl
  have HLAST : Hid (p.getLastD 0 = z ∧ p.dropLast = ys) := by
    unfold Hid
    rw [hpz]
    refine ⟨by rw [List.getLastD_eq_getLast?]; simp, List.dropLast_concat⟩
  have HR : Hid (allotR T p q = if uses o ≤ q ∧ uses (allotK b z q) ≤ quotaP (atP T) ys then 0 else 33) := by
    unfold Hid allotR
    rw [ho, HLAST.out.1, HLAST.out.2]
    have hne : p ≠ [] := by rw [hpz]; simp
    have hat : atT T (Pa.zText ys) = b := by unfold atT; rw [hb]; rfl
    simp only [hat]
    rw [if_pos ⟨hne, hq⟩]
  have HAT : Hid (allotT T p q = updT T (Pa.zText ys) (allotK b z q)) := by
    unfold Hid allotT
    rw [HLAST.out.1, HLAST.out.2]
    unfold atT
    rw [hb]
    rfl
  have HTI := Lib.hid hti
  have HN := Lib.hid hn
  have HLEN := Lib.hid hlen
  have HOBK := Lib.hid hobk
  have HWB := Lib.hid hwb
  have HWO := Lib.hid hwo
  have HBOK := Lib.hid hbok
  have HOOK := Lib.hid hook
  have HK0 := Lib.hid hk0
  have HK1 := Lib.hid hk1
  have HQ := Lib.hid hq
  have PO : Hid (0 < b.kids.length) := List.length_pos_of_mem hk0
  obtain ⟨vl1, vb1, vo1, ve1, vm1, rfl, ⟨Al1, cl1, rfl, -⟩, ⟨Ab1, cb1, rfl, -⟩, ⟨Ao1, co1, rfl, -⟩, ⟨Ae1, ce1, rfl, -⟩, ⟨Am1, cm1, rfl, -⟩⟩ := hobk
  obtain ⟨Ak1, ck1, rfl, -⟩ := hkbs
  obtain ⟨cx, hcx⟩ : ∃ cs : Array Value, cs = #[.int .i64 b.kind, .slice Al1 b.lab.length cl1, .slice Ak1 b.kids.length ck1, .int .i64 b.next, .slice Ab1 b.bytes.length cb1, .slice Ao1 b.own.length co1, .int .i64 b.cats, .slice Ae1 b.entry.length ce1, .int .i64 b.ring, .slice Am1 b.maps.length cm1] := ⟨_, rfl⟩
  have CX := Lib.hid hcx
  clear he hti hI hL hn hp hpl hpz ho hb hfo hfb hook hbok hwb hwo hk0 hk1 hyl hywide hlen hvb hkb hrow hbat hcx
  go_enter Tryz.func36, Tryz.ntmps36
  go_wp2_with fail
  refine H75.out.mono ?_
  rintro e w1 ⟨hb1, v1, rfl, hv1⟩
  have B1 := Lib.hid hb1
  have R16o : Hid (∀ W, Below w1.heap.size w1 W → Calls Tryz.prog 16 #[v1] W (RetB W (.int .i64 (uses o)))) := fun W hW => uses_any (hv1.read hW) HWO.out HOOK.out.kids
  obtain ⟨vk, ⟨vl, vy, vo, ve, vm, rfl, ⟨Al, cl, rfl, -⟩, ⟨Ab, cb, rfl, -⟩, ⟨Ao, co, rfl, -⟩, ⟨Ae, ce, rfl, -⟩, ⟨Am, cm, rfl, -⟩⟩, ⟨Ak, ck, rfl, -⟩⟩ := hv1
  obtain ⟨cy, hcy⟩ : ∃ cs : Array Value, cs = #[.int .i64 o.kind, .slice Al o.lab.length cl, .slice Ak o.kids.length ck, .int .i64 o.next, .slice Ab o.bytes.length cb, .slice Ao o.own.length co, .int .i64 o.cats, .slice Ae o.entry.length ce, .int .i64 o.ring, .slice Am o.maps.length cm] := ⟨_, rfl⟩
  have CY := Lib.hid hcy
  have A2 : Hid (Below w1.heap.size w1 (w1.alloc (.cells cy 29))) := (Below.refl _ _).alloc (Nat.le_refl _) _
  have B2 := Lib.hid (next_below B1.out A2.out)
  have XO2 := Lib.hid (BoxAt.new w1 cy 29)
  have H80 := Lib.hid (R80.out _ B2.out)
  rw [hcy] at H80
  clear hb1 hcy
  go_wp2_with (first | (go_at_call 40; refine H40.out.mono ?_; rintro e w6 ⟨hb6, v6, rfl, hr6⟩; rw [← CX.out] at hb6 hr6; have A6b := Lib.hid hb6; have X6 := XB5.out.on hb6; rw [CX.out] at X6; have F6 := X6.frozen; obtain ⟨g0, g1, g2, g3, g4, g5, g6, g7, g8, g9⟩ := box10 X6; have XB6 := Lib.hid X6; obtain ⟨k6, c6, rfl, hk6, -⟩ := row_cell hr6 PO.out; have R6 := Lib.hid hr6; have K6 := Lib.hid hk6; clear hb6 hr6 X6 hk6) | (go_at_call 75; refine (R75.out _ _ _ B3.out P3.out).mono ?_; rintro e w4 ⟨rfl, hb4⟩; have A4 := Lib.hid (next_below A3b.out hb4); have B4 := Lib.hid (next_below B3.out hb4); have XO4 := Lib.hid (XO3.out.on hb4); have P4 := Lib.hid (P3.out.on hb4); have B5 : Hid (Below w.heap.size w (w4.alloc (.cells cx 29))) := next_below B4.out ((Below.refl _ _).alloc (Nat.le_refl _) _); have XB5 := Lib.hid (BoxAt.new w4 cx 29); have h40 := R40.out _ B5.out; rw [CX.out] at h40; have H40 := Lib.hid h40; clear hb4 h40) | (go_at_call 60; refine (R60.out _).mono ?_; rintro e wz ⟨rfl, rfl⟩) | (go_at_call 80; refine H80.out.mono ?_; rintro e w3 ⟨hb3, A3, c3, rfl, hp3⟩; rw [← CY.out] at hb3; have A3b := Lib.hid (next_below A2.out hb3); have B3 := Lib.hid (next_below B2.out hb3); have XO3 := Lib.hid (XO2.out.on hb3); have P3 := Lib.hid hp3; clear hb3 hp3))
  obtain ⟨Wa, hWa⟩ : ∃ W, W = w6.setCell ⟨w4.heap.size, 2, none⟩ (.slice (some ⟨k6, 0, none⟩) b.kids.length c6) := ⟨_, rfl⟩
  rw [← hWa]
  have hsz4 := B4.out.size
  have hk6 : w4.heap.size < k6 := Nat.lt_of_lt_of_le XB5.out.lt K6.out
  have hD : Below w4.heap.size w4 Wa := by rw [hWa]; exact (next_below ((Below.refl w4.heap.size w4).alloc (Nat.le_refl _) (.cells cx 29)) A6b.out).setCell (p := ⟨w4.heap.size, 2, none⟩) (Nat.le_refl _) _
  have hXa : BoxAt Wa w4.heap.size #[.int .i64 b.kind, .slice Al1 b.lab.length cl1, .slice (some ⟨k6, 0, none⟩) b.kids.length c6, .int .i64 b.next, .slice Ab1 b.bytes.length cb1, .slice Ao1 b.own.length co1, .int .i64 b.cats, .slice Ae1 b.entry.length ce1, .int .i64 b.ring, .slice Am1 b.maps.length cm1] 29 := by
    have h := XB6.out.setL 2 (.slice (some ⟨k6, 0, none⟩) b.kids.length c6)
    simp only [List.set_cons_zero, List.set_cons_succ] at h
    rw [hWa]
    exact h
  have hRa : Wa.ownsRow (w4.alloc (.cells cx 29)).heap.size 85 3 (.slice (some ⟨k6, 0, none⟩) b.kids.length c6) b.kids.length (kidCells b.kids) := by
    rw [hWa]
    exact own_kp R6.out ((Tp.Kp.refl (fun x => x = w4.heap.size) w6).setCell (p := ⟨w4.heap.size, 2, none⟩) (fun _ => rfl) _) fun x hx e => by simp [Value.ownBlock] at hx; omega
  have BA := next_below B4.out hD
  have R81 : Hid (∀ W, Below Wa.heap.size Wa W → Calls Tryz.prog 81 #[.agg #[.int .i64 b.kind, .slice Al1 b.lab.length cl1, .slice (some ⟨k6, 0, none⟩) b.kids.length c6, .int .i64 b.next, .slice Ab1 b.bytes.length cb1, .slice Ao1 b.own.length co1, .int .i64 b.cats, .slice Ae1 b.entry.length ce1, .int .i64 b.ring, .slice Am1 b.maps.length cm1], .int .i64 z] W fun e w' => Below W.heap.size W w' ∧ ∃ (m : Nat) (k : Kd), e = .returned (.int .i64 (m : Int)) ∧ b.kids[m]? = some k ∧ k.1 = z) := fun W hW => by
    have hat : ObjAt W No (.agg #[.int .i64 b.kind, .slice Al1 b.lab.length cl1, .slice (some ⟨k6, 0, none⟩) b.kids.length c6, .int .i64 b.next, .slice Ab1 b.bytes.length cb1, .slice Ao1 b.own.length co1, .int .i64 b.cats, .slice Ae1 b.entry.length ce1, .int .i64 b.ring, .slice Am1 b.maps.length cm1]) b := ⟨_, (ObjK.same HOBK.out).on (next_below BA hW) (fun _ _ h => h.elim), (slv_row hRa).on hW (fun _ _ h => h.elim)⟩
    refine (place_any (n := z) hat HWB.out).mono ?_
    rintro e w' ⟨h1, y, rfl, hy⟩
    obtain ⟨m, k, rfl, hm, hk⟩ := ix_there hy HK0.out HK1.out
    exact ⟨h1, m, k, rfl, hm, hk⟩
  have mk : ∀ W, BoxAt W w4.heap.size #[.int .i64 b.kind, .slice Al1 b.lab.length cl1, .slice (some ⟨k6, 0, none⟩) b.kids.length c6, .int .i64 b.next, .slice Ab1 b.bytes.length cb1, .slice Ao1 b.own.length co1, .int .i64 b.cats, .slice Ae1 b.entry.length ce1, .int .i64 b.ring, .slice Am1 b.maps.length cm1] 29 → W.cell? ⟨w4.heap.size, 0, none⟩ = some (.int .i64 b.kind) ∧ W.cell? ⟨w4.heap.size, 1, none⟩ = some (.slice Al1 b.lab.length cl1) ∧ W.cell? ⟨w4.heap.size, 2, none⟩ = some (.slice (some ⟨k6, 0, none⟩) b.kids.length c6) ∧ W.cell? ⟨w4.heap.size, 3, none⟩ = some (.int .i64 b.next) ∧ W.cell? ⟨w4.heap.size, 4, none⟩ = some (.slice Ab1 b.bytes.length cb1) ∧ W.cell? ⟨w4.heap.size, 5, none⟩ = some (.slice Ao1 b.own.length co1) ∧ W.cell? ⟨w4.heap.size, 6, none⟩ = some (.int .i64 b.cats) ∧ W.cell? ⟨w4.heap.size, 7, none⟩ = some (.slice Ae1 b.entry.length ce1) ∧ W.cell? ⟨w4.heap.size, 8, none⟩ = some (.int .i64 b.ring) ∧ W.cell? ⟨w4.heap.size, 9, none⟩ = some (.slice Am1 b.maps.length cm1) := fun W hX => box10 hX
  have hXd := BoxAt.drew hXa
  have hkl := HBOK.out.kids.1
  have HD := Lib.hid hD
  have XA := Lib.hid hXa
  have RA := Lib.hid hRa
  have BAh := Lib.hid BA
  have hdr : Below Wa.heap.size Wa Wa.drew := (Below.refl _ _).drew
  clear hWa hD hRa BA
  go_region_held3 (fun W => W.cell? ⟨w4.heap.size, 0, none⟩ = some (.int .i64 b.kind) ∧ W.cell? ⟨w4.heap.size, 1, none⟩ = some (.slice Al1 b.lab.length cl1) ∧ W.cell? ⟨w4.heap.size, 2, none⟩ = some (.slice (some ⟨k6, 0, none⟩) b.kids.length c6) ∧ W.cell? ⟨w4.heap.size, 3, none⟩ = some (.int .i64 b.next) ∧ W.cell? ⟨w4.heap.size, 4, none⟩ = some (.slice Ab1 b.bytes.length cb1) ∧ W.cell? ⟨w4.heap.size, 5, none⟩ = some (.slice Ao1 b.own.length co1) ∧ W.cell? ⟨w4.heap.size, 6, none⟩ = some (.int .i64 b.cats) ∧ W.cell? ⟨w4.heap.size, 7, none⟩ = some (.slice Ae1 b.entry.length ce1) ∧ W.cell? ⟨w4.heap.size, 8, none⟩ = some (.int .i64 b.ring) ∧ W.cell? ⟨w4.heap.size, 9, none⟩ = some (.slice Am1 b.maps.length cm1))
    (first | with_reducible exact mk _ (X9 _) | with_reducible exact mk _ X8 | with_reducible exact mk _ hXd | with_reducible exact mk _ hXa)
    (first | (go_at_call 81; refine (R81.out _ hdr).mono ?_; rintro e w8 ⟨hb8, m, k, rfl, hm, hkz⟩; have D8 := Lib.hid (next_below hdr hb8); have X8 := hXa.on D8.out; have r8 := own_on RA.out D8.out; obtain ⟨k7, c7, hk7, -, -, hc7, hf7⟩ := row_cell r8 PO.out; obtain ⟨rfl, rfl⟩ := slice_inj hk7; have d8 := hc7 (m * 3 + 2) _ (kidCells_at hm).2.2; have f8 := hf7 (m * 3 + 2); have X9 := fun u => X8.far (a := ⟨k6, m * 3 + 2, none⟩) (by simp only; omega) u; have hml := (List.getElem?_eq_some_iff.1 hm).1; have HM := Lib.hid hm; have HKZ := Lib.hid hkz; have RO8 := Lib.hid r8; clear hb8 hm hkz r8 hk7 hc7 hf7))
  obtain ⟨Wb, hWb⟩ : ∃ W, W = w8.setCell ⟨k6, m * 3 + 2, none⟩ (.int .i64 q) := ⟨_, rfl⟩
  rw [← hWb]
  have hDb : Below w4.heap.size w4 Wb := by rw [hWb]; exact (next_below HD.out D8.out).setCell (p := ⟨k6, m * 3 + 2, none⟩) (by simp only; omega) _
  have hXb : BoxAt Wb w4.heap.size #[.int .i64 b.kind, .slice Al1 b.lab.length cl1, .slice (some ⟨k6, 0, none⟩) b.kids.length c6, .int .i64 b.next, .slice Ab1 b.bytes.length cb1, .slice Ao1 b.own.length co1, .int .i64 b.cats, .slice Ae1 b.entry.length ce1, .int .i64 b.ring, .slice Am1 b.maps.length cm1] 29 := by rw [hWb]; exact X9 _
  have hRb : Wb.ownsRow (w4.alloc (.cells cx 29)).heap.size 85 3 (.slice (some ⟨k6, 0, none⟩) b.kids.length c6) b.kids.length (kidCells (setQ b.kids z q)) := by
    rw [hWb]
    have h := (World.ownsRow.stored RO8.out (m * 3 + 2) (.int .i64 q)).1
    rwa [kidCells_setQ HBOK.out.kids.2.2 HM.out HKZ.out] at h
  have BBh := Lib.hid (next_below B4.out hDb)
  have DB := Lib.hid hDb
  have XB := Lib.hid hXb
  have PB := Lib.hid (P4.out.on hDb)
  have xo := XO4.out.on hDb
  rw [CY.out] at xo
  obtain ⟨r0, r1, r2, r3, r4, r5, r6, r7, r8, r9⟩ := box10 xo
  have hob : ObjK w F (.agg #[.int .i64 b.kind, .slice Al1 b.lab.length cl1, .slice (some ⟨k6, 0, none⟩) b.kids.length c6, .int .i64 b.next, .slice Ab1 b.bytes.length cb1, .slice Ao1 b.own.length co1, .int .i64 b.cats, .slice Ae1 b.entry.length ce1, .int .i64 b.ring, .slice Am1 b.maps.length cm1]) (.slice (some ⟨k6, 0, none⟩) b.kids.length c6) (allotK b z q) := ObjK.setK HOBK.out
  have hwq : WideO (allotK b z q) := wide_allotK HWB.out ⟨by have := HQ.out; omega, by have := HQ.out; omega⟩
  have hkq : KidsOk b.next (setQ b.kids z q) := setQ_ok HBOK.out.kids HQ.out.1 HQ.out.2
  have hrow2 : Wb.ownsRow w.heap.size 85 3 (.slice (some ⟨k6, 0, none⟩) b.kids.length c6) (allotK b z q).kids.length (kidCells (allotK b z q).kids) := by
    have h := own_base (base' := w.heap.size) hRb (Nat.le_trans hsz4 (Nat.le_of_lt XB5.out.lt))
    show Wb.ownsRow w.heap.size 85 3 _ (setQ b.kids z q).length (kidCells (setQ b.kids z q))
    rw [setQ_len]
    exact h
  have R16b : Hid (∀ W, Below Wb.heap.size Wb W → Calls Tryz.prog 16 #[.agg #[.int .i64 b.kind, .slice Al1 b.lab.length cl1, .slice (some ⟨k6, 0, none⟩) b.kids.length c6, .int .i64 b.next, .slice Ab1 b.bytes.length cb1, .slice Ao1 b.own.length co1, .int .i64 b.cats, .slice Ae1 b.entry.length ce1, .int .i64 b.ring, .slice Am1 b.maps.length cm1]] W (RetB W (.int .i64 (uses (allotK b z q))))) := fun W hW => uses_any (F := No) ⟨_, hob.on (next_below BBh.out hW) (fun _ _ h => h.elim), (slv_row hrow2).on hW (fun _ _ h => h.elim)⟩ hwq hkq
  have H16 := Lib.hid (R16o.out Wb (next_below A4.out hDb))
  obtain ⟨U, hU⟩ : ∃ U, U = uses o := ⟨_, rfl⟩
  obtain ⟨U2, hU2⟩ : ∃ U, U = uses (allotK b z q) := ⟨_, rfl⟩
  obtain ⟨Q, hQ⟩ : ∃ Q, Q = quotaP (atP T) ys := ⟨_, rfl⟩
  rw [← hU] at H16 HR
  rw [← hU2] at R16b HR
  rw [← hQ] at R28 HR
  have HRW := Lib.hid hrow2
  have HOB := Lib.hid hob
  have HWQ := Lib.hid hwq
  clear hWb hDb hXb hRb xo hob hwq hkq hrow2 mk hXd hdr hU hU2 hQ X8 X9 d8 f8
  by_cases h1 : q < U
  case pos =>
    have HDD : Hid (allotR T p q = 33) := HR.out.trans (if_neg fun h => by omega)
    go_wp2_with (first | (go_at_call 16; refine H16.out.mono ?_; rintro e wf ⟨rfl, hbf⟩; have Df := Lib.hid hbf; have Bf := Lib.hid (next_below BBh.out hbf); have xf := XB.out.on hbf; obtain ⟨s0, s1, s2, s3, s4, s5, s6, s7, s8, s9⟩ := box10 xf; have XF := Lib.hid xf; clear hbf xf))
    go_ret
    exact RetAllot.same ⟨_, _, _, HTI.out⟩ Bf.out HDD.out (by decide) rfl
  by_cases h2 : Q < U2
  case pos =>
    have HDD : Hid (allotR T p q = 33) := HR.out.trans (if_neg fun h => by omega)
    go_wp2_with (first | (go_at_call 16; refine (R16b.out _ Df.out).mono ?_; rintro e wg ⟨rfl, hbg⟩; have Dg := Lib.hid (next_below Df.out hbg); have Bg := Lib.hid (next_below Bf.out hbg); clear hbg) | (go_at_call 16; refine H16.out.mono ?_; rintro e wf ⟨rfl, hbf⟩; have Df := Lib.hid hbf; have Bf := Lib.hid (next_below BBh.out hbf); have xf := XB.out.on hbf; obtain ⟨s0, s1, s2, s3, s4, s5, s6, s7, s8, s9⟩ := box10 xf; have XF := Lib.hid xf; clear hbf xf) | (go_at_call 28; refine (R28.out _ _ _ Bg.out (PB.out.on Dg.out)).mono ?_; rintro e wh ⟨rfl, hbh⟩; have Dh := Lib.hid (next_below Dg.out hbh); have Bh := Lib.hid (next_below Bg.out hbh); clear hbh))
    go_ret
    exact RetAllot.same ⟨_, _, _, HTI.out⟩ Bh.out HDD.out (by decide) rfl
  have HDD : Hid (allotR T p q = 0) := HR.out.trans (if_pos ⟨by omega, by omega⟩)
  go_wp2_with (first | (go_at_call 16; refine (R16b.out _ Df.out).mono ?_; rintro e wg ⟨rfl, hbg⟩; have Dg := Lib.hid (next_below Df.out hbg); have Bg := Lib.hid (next_below Bf.out hbg); clear hbg) | (go_at_call 16; refine H16.out.mono ?_; rintro e wf ⟨rfl, hbf⟩; have Df := Lib.hid hbf; have Bf := Lib.hid (next_below BBh.out hbf); have xf := XB.out.on hbf; obtain ⟨s0, s1, s2, s3, s4, s5, s6, s7, s8, s9⟩ := box10 xf; have XF := Lib.hid xf; clear hbf xf) | (go_at_call 28; refine (R28.out _ _ _ Bg.out (PB.out.on Dg.out)).mono ?_; rintro e wh ⟨rfl, hbh⟩; have Dh := Lib.hid (next_below Dg.out hbh); have Bh := Lib.hid (next_below Bg.out hbh); clear hbh))
  obtain ⟨S, hS⟩ : ∃ S, S = str (Pa.zText ys) := ⟨_, rfl⟩
  have R68e := R68
  rw [← hS] at R68e
  have htlt := HTI.out.tlt
  have hv0 := HTI.out.var
  have hbmlt := HTI.out.map.lt
  have hkp : ∀ W, Below w.heap.size w W → ∀ v, (Instr.mapUpdate 72 (.map (some bm)) (.string S) v).run Tryz.prog W = .ok () (putW bm (Pa.zText ys) v W) := fun W hW v => by
    rw [hS]
    exact ((HTI.out.map.on hW).put (by have := HN.out; omega) HLEN.out v).1
  have hkp2 : ∀ W, Below w.heap.size w W → ∀ u v, (Instr.mapUpdate 72 (.map (some bm)) (.string S) v).run Tryz.prog (putW bm (Pa.zText ys) u W) = .ok () (putW bm (Pa.zText ys) v (putW bm (Pa.zText ys) u W)) := fun W hW u v => by
    rw [hS]
    exact ((((HTI.out.map.on hW).put (by have := HN.out; omega) HLEN.out u).2.1 o).put (by have := HN.out; omega) HLEN.out v).1
  clear hS
  have mk : ∀ W, Below w.heap.size w W → BoxAt W w4.heap.size #[.int .i64 b.kind, .slice Al1 b.lab.length cl1, .slice (some ⟨k6, 0, none⟩) b.kids.length c6, .int .i64 b.next, .slice Ab1 b.bytes.length cb1, .slice Ao1 b.own.length co1, .int .i64 b.cats, .slice Ae1 b.entry.length ce1, .int .i64 b.ring, .slice Am1 b.maps.length cm1] 29 → W.cell? ⟨t, 0, none⟩ = some (.map (some bm)) ∧ W.cell? ⟨w4.heap.size, 0, none⟩ = some (.int .i64 b.kind) ∧ W.cell? ⟨w4.heap.size, 1, none⟩ = some (.slice Al1 b.lab.length cl1) ∧ W.cell? ⟨w4.heap.size, 2, none⟩ = some (.slice (some ⟨k6, 0, none⟩) b.kids.length c6) ∧ W.cell? ⟨w4.heap.size, 3, none⟩ = some (.int .i64 b.next) ∧ W.cell? ⟨w4.heap.size, 4, none⟩ = some (.slice Ab1 b.bytes.length cb1) ∧ W.cell? ⟨w4.heap.size, 5, none⟩ = some (.slice Ao1 b.own.length co1) ∧ W.cell? ⟨w4.heap.size, 6, none⟩ = some (.int .i64 b.cats) ∧ W.cell? ⟨w4.heap.size, 7, none⟩ = some (.slice Ae1 b.entry.length ce1) ∧ W.cell? ⟨w4.heap.size, 8, none⟩ = some (.int .i64 b.ring) ∧ W.cell? ⟨w4.heap.size, 9, none⟩ = some (.slice Am1 b.maps.length cm1) ∧ (∀ v, (Instr.mapUpdate 72 (.map (some bm)) (.string S) v).run Tryz.prog W = .ok () (putW bm (Pa.zText ys) v W)) := fun W hW hX => by
    obtain ⟨q0, q1, q2, q3, q4, q5, q6, q7, q8, q9⟩ := box10 hX
    exact ⟨(hW.cell (p := ⟨t, 0, none⟩) htlt).trans hv0, q0, q1, q2, q3, q4, q5, q6, q7, q8, q9, hkp W hW⟩
  have mkP : ∀ W u, Below w.heap.size w W → BoxAt W w4.heap.size #[.int .i64 b.kind, .slice Al1 b.lab.length cl1, .slice (some ⟨k6, 0, none⟩) b.kids.length c6, .int .i64 b.next, .slice Ab1 b.bytes.length cb1, .slice Ao1 b.own.length co1, .int .i64 b.cats, .slice Ae1 b.entry.length ce1, .int .i64 b.ring, .slice Am1 b.maps.length cm1] 29 → (putW bm (Pa.zText ys) u W).cell? ⟨t, 0, none⟩ = some (.map (some bm)) ∧ (putW bm (Pa.zText ys) u W).cell? ⟨w4.heap.size, 0, none⟩ = some (.int .i64 b.kind) ∧ (putW bm (Pa.zText ys) u W).cell? ⟨w4.heap.size, 1, none⟩ = some (.slice Al1 b.lab.length cl1) ∧ (putW bm (Pa.zText ys) u W).cell? ⟨w4.heap.size, 2, none⟩ = some (.slice (some ⟨k6, 0, none⟩) b.kids.length c6) ∧ (putW bm (Pa.zText ys) u W).cell? ⟨w4.heap.size, 3, none⟩ = some (.int .i64 b.next) ∧ (putW bm (Pa.zText ys) u W).cell? ⟨w4.heap.size, 4, none⟩ = some (.slice Ab1 b.bytes.length cb1) ∧ (putW bm (Pa.zText ys) u W).cell? ⟨w4.heap.size, 5, none⟩ = some (.slice Ao1 b.own.length co1) ∧ (putW bm (Pa.zText ys) u W).cell? ⟨w4.heap.size, 6, none⟩ = some (.int .i64 b.cats) ∧ (putW bm (Pa.zText ys) u W).cell? ⟨w4.heap.size, 7, none⟩ = some (.slice Ae1 b.entry.length ce1) ∧ (putW bm (Pa.zText ys) u W).cell? ⟨w4.heap.size, 8, none⟩ = some (.int .i64 b.ring) ∧ (putW bm (Pa.zText ys) u W).cell? ⟨w4.heap.size, 9, none⟩ = some (.slice Am1 b.maps.length cm1) ∧ (∀ v, (Instr.mapUpdate 72 (.map (some bm)) (.string S) v).run Tryz.prog (putW bm (Pa.zText ys) u W) = .ok () (putW bm (Pa.zText ys) v (putW bm (Pa.zText ys) u W))) := fun W u hW hX => by
    have hK : Tp.Kp (fun b => b = bm) W (putW bm (Pa.zText ys) u W) := (Tp.Kp.refl _ W).grown ((HTI.out.map.on hW).put (by have := HN.out; omega) HLEN.out u).2.2 fun k e _ => by injection e with e; exact e.symm
    have hX := hX.kp hK (fun e => by omega)
    obtain ⟨q0, q1, q2, q3, q4, q5, q6, q7, q8, q9⟩ := box10 hX
    exact ⟨hK.cell ((hW.cell (p := ⟨t, 0, none⟩) htlt).trans hv0) (fun e => HTI.out.map.ne hv0 e), q0, q1, q2, q3, q4, q5, q6, q7, q8, q9, hkp2 W hW u⟩
  have xh := XB.out.on Dh.out
  have hdr : Below wh.heap.size wh wh.drew := (Below.refl _ _).drew
  have Bhd := Bh.out.drew
  have xhd := xh.drew
  go_region_held3 (fun W => W.cell? ⟨t, 0, none⟩ = some (.map (some bm)) ∧ W.cell? ⟨w4.heap.size, 0, none⟩ = some (.int .i64 b.kind) ∧ W.cell? ⟨w4.heap.size, 1, none⟩ = some (.slice Al1 b.lab.length cl1) ∧ W.cell? ⟨w4.heap.size, 2, none⟩ = some (.slice (some ⟨k6, 0, none⟩) b.kids.length c6) ∧ W.cell? ⟨w4.heap.size, 3, none⟩ = some (.int .i64 b.next) ∧ W.cell? ⟨w4.heap.size, 4, none⟩ = some (.slice Ab1 b.bytes.length cb1) ∧ W.cell? ⟨w4.heap.size, 5, none⟩ = some (.slice Ao1 b.own.length co1) ∧ W.cell? ⟨w4.heap.size, 6, none⟩ = some (.int .i64 b.cats) ∧ W.cell? ⟨w4.heap.size, 7, none⟩ = some (.slice Ae1 b.entry.length ce1) ∧ W.cell? ⟨w4.heap.size, 8, none⟩ = some (.int .i64 b.ring) ∧ W.cell? ⟨w4.heap.size, 9, none⟩ = some (.slice Am1 b.maps.length cm1) ∧ (∀ v, (Instr.mapUpdate 72 (.map (some bm)) (.string S) v).run Tryz.prog W = .ok () (putW bm (Pa.zText ys) v W)))
    (first | with_reducible exact mkP _ _ B9.out x9 | with_reducible exact mk _ B9.out x9 | with_reducible exact mk _ Bhd xhd | with_reducible exact mk _ Bh.out xh)
    (first | (go_at_call 68; refine (R68e.out _ _ _ Bhd ((PB.out.on Dh.out).on hdr)).mono ?_; rintro e Wf ⟨rfl, hbf⟩; have D9 := Lib.hid (next_below Dh.out (next_below hdr hbf)); have B9 := Lib.hid (next_below Bhd hbf); have x9 := xhd.on hbf; clear hbf))
  · clear hkp hkp2 mk mkP hdr
    go_wp2_with fail
    go_ret
    obtain ⟨F9, h1, h2⟩ := HTI.out.set_mix (s := Pa.zText ys) (v := .agg #[.int .i64 b.kind, .slice Al1 b.lab.length cl1, .slice (some ⟨k6, 0, none⟩) b.kids.length c6, .int .i64 b.next, .slice Ab1 b.bytes.length cb1, .slice Ao1 b.own.length co1, .int .i64 b.cats, .slice Ae1 b.entry.length ce1, .int .i64 b.ring, .slice Am1 b.maps.length cm1]) (vk := (.slice (some ⟨k6, 0, none⟩) b.kids.length c6)) (o := allotK b z q) (by have := HN.out; omega) HLEN.out HWQ.out B9.out
      (HOB.out.on B9.out fun x hx h => h.elim id fun h => by have := (own_block HRW.out h).1; omega)
      (own_on HRW.out D9.out)
    exact RetAllot.done HDD.out rfl ⟨F9, by rw [HAT.out]; exact h1, h2⟩
end Go.Proofs.YtgcbfggoddkhnaaGreatDoor

namespace Go.Proofs.YtgcbfggoddkhnaaGreatDoor
open Go.RowKit
theorem allot_any {w : World} {F : Nat → Prop} {t n : Nat} {T : TT} {L : Tab} {A : Option Addr} {c : Nat} {p : List Int} {q : Int} (he : Env w) (ht : TabAt w F t n T) (hI : IsT T L) (hL : ValT L) (hn : n ≤ 10000000000) (hp : Pa.PL w A c p) (hpl : p.length ≤ 10000000) :
    Calls Tryz.prog 36 #[.pointer (some ⟨t, 0, none⟩), .slice A p.length c, .int .i64 q] w (RetAllot w F t n T p q) := by
  cases ho : T (Pa.zText p) with
  | none => exact allot_early he ht hp hpl (.inl ho)
  | some o =>
    by_cases h : p ≠ [] ∧ 0 ≤ q ∧ q ≤ 1048576
    · obtain ⟨bm, V, K, hti⟩ := ht
      have hpz := (List.dropLast_concat_getLast h.1).symm
      have hfo : fnd L p = some o := by rw [← hI.at']; exact ho
      rw [hpz] at hfo
      obtain ⟨b, hb, _⟩ := hL.entry hfo
      exact allot_deep he hti hI hL hn hp hpl hpz ho (by rw [hI.at']; exact hb) h.2
    · exact allot_early he ht hp hpl (.inr h)
end Go.Proofs.YtgcbfggoddkhnaaGreatDoor

namespace Go.Proofs.YtgcbfggoddkhnaaGreatDoor
open Go.RowKit
set_option maxRecDepth 100000 in
theorem bytesEqual_any {w : World} {B B' : Nat} {A A' : Option Addr} {l l' : List Nat} {c c' : Nat} (h : Tp.Bts w B A l) (h' : Tp.Bts w B' A' l') (hs : Tp.Sml l) (hs' : Tp.Sml l') :
    Calls Tryz.prog 92 #[.slice A l.length c, .slice A' l'.length c'] w fun e w' => e = .returned (.bool (decide (l = l'))) ∧ w = w' := by
  have hc := Tp.conv_str h c
  have hc' := Tp.conv_str h' c'
  obtain ⟨S, hS⟩ : ∃ S, S = Tp.str l := ⟨_, rfl⟩
  obtain ⟨S', hS'⟩ : ∃ S, S = Tp.str l' := ⟨_, rfl⟩
  have HE : Hid (S = S' ↔ l = l') := by
    unfold Hid
    rw [hS, hS']
    exact ⟨fun e => Tp.str_inj hs hs' e, fun e => by rw [e]⟩
  rw [← hS] at hc
  rw [← hS'] at hc'
  clear hS hS' h h' hs hs'
  by_cases e : S = S'
  · have hd : Hid (decide (l = l') = true) := decide_eq_true (HE.out.1 e)
    subst e
    go_enter Tryz.func92, Tryz.ntmps92
    go_wp2_with fail
    go_ret
    exact ⟨by rw [hd.out] <;> rfl, rfl⟩
  · have hd : Hid (decide (l = l') = false) := decide_eq_false fun h => e (HE.out.2 h)
    have hb : (S.toList == S'.toList) = false := by
      have h1 : ¬ S.data.toList = S'.data.toList := fun h => e (by rw [str_of S, str_of S', h])
      have h2 := str_differs h1
      rwa [← str_of S, ← str_of S'] at h2
    go_enter Tryz.func92, Tryz.ntmps92
    go_wp2_with fail
    go_ret
    exact ⟨by rw [hd.out] <;> rfl, rfl⟩
end Go.Proofs.YtgcbfggoddkhnaaGreatDoor

namespace Go.Proofs.YtgcbfggoddkhnaaGreatDoor
open Go.RowKit
open Pa (encZ zBytes)
def RetLoad (w : World) (l : List Nat) (e : Ending) (w' : World) : Prop :=
  (∃ L, ValT L ∧ l = tabBytes L ∧ ∃ t' F n' T, e = .returned (.tuple #[.pointer (some ⟨t', 0, none⟩), .int .i64 0]) ∧ n' ≤ 65536 ∧ TabNew w' w.heap.size F t' n' T ∧ IsT T L ∧ Below w.heap.size w w') ∨
    ((¬ ∃ L, ValT L ∧ l = tabBytes L) ∧ e = .returned (.tuple #[.pointer none, .int .i64 10]) ∧ Below w.heap.size w w')
def LdRel (w w2 : World) (g bm : Nat) (kk : Option Nat) (l : List Nat) (N k : Nat) (i : Value) (wr : World) : Prop :=
  ∃ m, m + k = N ∧ i = .int .i64 (m : Int) ∧ (∀ j, j < m → goodI (ldS l j)) ∧ TapeS wr g kk (ldS l m) ∧ (∃ V, MapV wr bm m (ldT (ldX l m)) V ∧ ∀ s o, ldT (ldX l m) s = some o → ObjAt wr (fun b => b < w2.heap.size) (V s) o) ∧ Below w.heap.size w wr ∧ w2.heap.size ≤ wr.heap.size
theorem ldT_read {l : List Nat} (hs : Tp.Sml l) {m : Nat} (hg : ∀ j, j < m → goodI (ldS l j)) {s : List UInt8} {o : Ob} (h : ldT (ldX l m) s = some o) : ∃ p, s = Pa.zText p ∧ Pa.PathOk p ∧ ReadO o := by
  obtain ⟨hA, hI, hm, _, _⟩ := ld_ok (ldX l m)
  obtain ⟨p, rfl⟩ := hI.key s o h
  rw [hI.at'] at h
  have := (ld_good hs m hg).2 _ (hm _ (fnd_mem h))
  exact ⟨p, rfl, this.1, this.2⟩
theorem pathText_len {p : List Int} (h : Pa.PathOk p) : (Pa.zText p).length ≤ 1000000 := by
  have h1 := Pa.zText_len h.wide
  have h2 := h.1
  omega
theorem tabBytes_len {l : List Nat} (hs : Tp.Sml l) (hl : l.length ≤ 70000000) {m : Nat} (hm : m ≤ 65536) (hg : ∀ j, j < m → goodI (ldS l j)) : (tabBytes (ldL (ldX l m))).length ≤ 80000000 := by
  obtain ⟨_, _, _, h1, h2⟩ := ld_ok (ldX l m)
  have h3 := (ld_good hs m hg).1
  rw [ldX_len] at h1
  have h4 := Tp.enc_nine (n := (ldL (ldX l m)).length) (by omega)
  unfold tabBytes
  rw [List.length_append]
  omega
theorem ld_bytes {l : List Nat} (hs : Tp.Sml l) : ∀ m, (∀ j, j < m → goodI (ldS l j)) → ∀ x ∈ ldX l m, Tp.Sml (itemBytes x)
  | 0, _ => fun x h => by cases h
  | m + 1, h => fun x hx => by
    obtain ⟨_, h3, _⟩ := itemS_reads.sound (ldS l m) (ldS_sml hs m).1 (h m (by omega)).1
    rw [ldX_succ] at hx
    rcases List.mem_append.1 hx with hx | hx
    · exact ld_bytes hs m (fun j hj => h j (by omega)) x hx
    · rw [List.mem_singleton] at hx
      intro c hc
      rw [hx] at hc
      exact (ldS_sml hs m).1 c (by rw [h3]; exact List.mem_append_left _ hc)
theorem tabBytes_sml {l : List Nat} (hs : Tp.Sml l) {m : Nat} (hg : ∀ j, j < m → goodI (ldS l j)) : Tp.Sml (tabBytes (ldL (ldX l m))) := fun c hc => by
  unfold tabBytes at hc
  rcases List.mem_append.1 hc with hc | hc
  · exact Tp.enc_sml _ c hc
  · obtain ⟨x, hx, hc⟩ := List.mem_flatMap.1 hc
    exact ld_bytes hs m hg x ((ld_ok _).2.2.1 x hx) c hc
set_option maxRecDepth 100000 in
set_option maxHeartbeats 2000000 in
theorem load_any {w : World} {A : Option Addr} {c : Nat} {l : List Nat} (he : Env w) (hl : Tp.Bts w w.heap.size A l) (hs : Tp.Sml l) (hc : A = none → c = 0) (hn : l.length ≤ 70000000) :
    Calls Tryz.prog 32 #[.slice A l.length c] w (RetLoad w l) := by
  have H89 := Lib.hid (Tp.tape_new hl hc (by omega))
  have HE := Lib.hid he
  have HL := Lib.hid hl
  have HS := Lib.hid hs
  have HN := Lib.hid hn
  have HLN := Lib.hid (show ∀ m, Tp.Sml (ldS l m).1 ∧ (ldS l m).1.length ≤ 80000000 from fun m => ⟨(ldS_sml hs m).1, by have := (ldS_sml hs m).2; omega⟩)
  obtain ⟨N, hN, hN2, hN8⟩ := nS_nat (most := 65536) (by omega) (l, true)
  have HND : Hid (ldN l = N ∧ N ≤ 65536) := ⟨hN2.symm, by omega⟩
  have HNE := Lib.hid hN
  obtain ⟨n0, hn0⟩ : ∃ n, n = l.length := ⟨_, rfl⟩
  have HN0 := Lib.hid hn0
  have hmm := @run_makeMap Tryz.prog
  rw [← hn0] at H89 ⊢
  clear he hl hs hn hc hN hN2 hN8 hn0
  go_enter Tryz.func32, Tryz.ntmps32
  go_wp2_with fail
  refine H89.out.mono ?_
  rintro e w1 ⟨g, kk, rfl, ht1, hg1, hk1, hb1⟩
  have hglt := ht1.lt
  have hwl := HE.out.1
  have hrl := ht1.row_lt
  have hT1 : TapeS w1 g kk (l, true) := .inl ⟨rfl, ht1⟩
  obtain ⟨w2, hw2⟩ : ∃ W, W = w1.alloc (.map #[] 0) := ⟨_, rfl⟩
  have hbm : Below w1.heap.size w1 w2 := by rw [hw2]; exact (Below.refl _ _).alloc (Nat.le_refl _) _
  obtain ⟨bm, hbmv⟩ : ∃ b, b = w1.heap.size := ⟨_, rfl⟩
  have hsz2 : w2.heap.size = bm + 1 := by rw [hw2, hbmv]; simp
  have hM2 : MapV w2 bm 0 (fun _ => none) fun _ => undef := by rw [hw2, hbmv]; exact MapV.made w1
  have hgb : g < bm := by rw [hbmv]; exact hglt
  have hwb : w.heap.size ≤ bm := by rw [hbmv]; exact hb1.size
  have HKK : Hid (∀ j, kk = some j → w.heap.size ≤ j ∧ j < bm) := fun j hj => ⟨hk1 j hj, by rw [hbmv]; exact hrl j hj⟩
  have B2 := Lib.hid (next_below hb1 hbm)
  have T2 := hT1.on hbm
  have J := tapeS_num (most := 65536) T2 (HS.out : Tp.Sml (l, true).1) (by show l.length ≤ _; have := HN.out; omega)
  rw [HNE.out] at J
  have J := Lib.hid J
  have M2 := Lib.hid hM2
  clear ht1 hk1 hb1 hrl hT1 hbm hM2 T2 H89
  go_wp2_with fail
  rw [← hbmv, ← hw2]
  clear hbmv hw2 hmm
  refine J.out.mono ?_
  rintro e w3 ⟨rfl, ht3, hk3⟩
  have T3 : Hid (TapeS w3 g kk (ldS l 0)) := ht3
  have M3 : Hid (MapV w3 bm 0 (fun _ => none) fun _ => undef) := M2.out.kp hk3 (by omega)
  have B3 := Lib.hid (B2.out.trans (hk3.below B2.out.size fun b e => by omega))
  have HZ3 : Hid (w2.heap.size ≤ w3.heap.size) := hk3.size
  clear ht3 hk3 J M2
  go_wp2_with fail
  go_loopg [16] N (fun k i wr => LdRel w w2 g bm kk l N k i wr)
  case atStart => exact ⟨0, by simp, rfl, fun j hj => absurd hj (by omega), T3.out, ⟨fun _ => undef, M3.out, fun s o h => by cases h⟩, B3.out, HZ3.out⟩
  case round =>
    obtain ⟨m, hmk, hi, hgd, htp, ⟨V, hmv, hob⟩, hbw, hszr⟩ := hrel
    subst hi
    have HG := Lib.hid hgd
    have HB := Lib.hid hbw
    have HMK := Lib.hid hmk
    have hew : Env wr := HE.out.on hbw
    cases gk with
    | zero =>
      have hmn : m = N := by omega
      subst hmn
      have HT := Lib.hid (show ∀ s o, ldT (ldX l m) s = some o → s.length ≤ 100000000000 from fun s o h => by
        obtain ⟨p, rfl, h1, _⟩ := ldT_read HS.out HG.out h
        have := pathText_len h1
        omega)
      have H35 := Lib.hid (of_any hew hmv (fun s o h => by
        obtain ⟨p, _, _, h2⟩ := ldT_read HS.out HG.out h
        exact ⟨h2.wide, (hob s o h).read (Below.refl _ _)⟩) HT.out (by have := HND.out.2; omega))
      obtain ⟨T, hT⟩ : ∃ T, T = ldT (ldX l m) := ⟨_, rfl⟩
      have HTE := Lib.hid hT
      rw [← hT] at H35
      have hge : ¬ (m : Int) < m := by omega
      clear htp hmv hob hgd hbw hmk hew hT
      go_wp2_with fail
      refine H35.out.mono ?_
      rintro e w5 (⟨hv, t', F, n', rfl, hn', htab, hstp⟩ | ⟨hv, rfl, hb5⟩)
      · obtain ⟨hVL, hIT⟩ := ld_sound HTE.out hv
        obtain ⟨L, hLd⟩ : ∃ L, L = ldL (ldX l m) := ⟨_, rfl⟩
        have hbl : (tabBytes L).length ≤ 80000000 := by rw [hLd]; exact tabBytes_len HS.out HN.out HND.out.2 HG.out
        have HSM : Hid (Tp.Sml (tabBytes L)) := by rw [hLd]; exact tabBytes_sml HS.out HG.out
        have HU : Hid (∀ M, ValT M → l = tabBytes M → M = L) := fun M hM h => by
          have := (ld_valid HS.out hM h).2
          rw [HND.out.1] at this
          rw [hLd]; exact this.symm
        rw [← hLd] at hVL hIT
        have hew5 : Env w5 := HE.out.on (next_below HB.out hstp)
        have H30 := Lib.hid (bytes_any hew5 (htab.at.read (Below.refl _ _)) hIT hVL.asc hVL.path (by have := HND.out.2; omega) hbl)
        have HV := Lib.hid hVL
        have HI := Lib.hid hIT
        have HTAB := Lib.hid htab
        have HLL : Hid ((tabBytes L).length ≤ 80000000) := hbl
        have HTN : Hid (n' ≤ 65536) := by have := HND.out.2; unfold Hid; omega
        have HB5 : Hid (Below w.heap.size w w5) := next_below HB.out hstp
        clear hv hn' htab hstp hLd hbl hew5 hVL hIT H35
        go_wp2_with fail
        refine H30.out.mono ?_
        rintro e w6 ⟨A6, c6, rfl, r1, r2, r3, r4, r5, r6⟩
        have hB6 := next_below HB5.out r6
        have hlb : Tp.Bts w6 w.heap.size A l := (HL.out).below hB6
        have hsm : Tp.Sml (tabBytes L) := HSM.out
        have H92 := bytesEqual_any (c := c6) (c' := c) r1 hlb hsm HS.out
        rw [← HN0.out] at H92
        have H92 := Lib.hid H92
        have B6 := Lib.hid hB6
        have TB6 := Lib.hid ((HTAB.out.less HB.out.size).on r6)
        clear r1 r2 r3 r4 r5 r6 hB6 hlb hsm H30
        by_cases heq : tabBytes L = l
        · rw [decide_eq_true heq] at H92
          have HEQ := Lib.hid heq
          clear heq
          go_wp2_with fail
          refine H92.out.mono ?_
          rintro e w7 ⟨rfl, rfl⟩
          go_wp2_with fail
          go_ret2
          exact .inl ⟨L, HV.out, HEQ.out.symm, t', F, n', T, rfl, HTN.out, TB6.out, HI.out, B6.out⟩
        · rw [decide_eq_false heq] at H92
          have HEQ := Lib.hid heq
          clear heq
          go_wp2_with fail
          refine H92.out.mono ?_
          rintro e w7 ⟨rfl, rfl⟩
          go_wp2_with fail
          go_ret2
          exact .inr ⟨fun ⟨M, hM, h⟩ => HEQ.out (by rw [← HU.out M hM h]; exact h.symm), rfl, B6.out⟩
      · have HV := Lib.hid hv
        have B5 := Lib.hid (next_below HB.out hb5)
        clear hv hb5 H35
        go_wp2_with fail
        go_ret2
        exact .inr ⟨fun ⟨M, hM, h⟩ => HV.out (by
          have h1 := (ld_valid HS.out hM h).1
          rw [HND.out.1, ← HTE.out] at h1
          exact h1), rfl, B5.out⟩
    | succ j =>
      have hm : m < N := by omega
      have H91 := Lib.hid (tget_any hew (by omega) htp (HLN.out m).1 (HLN.out m).2)
      have HMV := Lib.hid hmv
      have HOB := Lib.hid hob
      have hmlt : (m : Int) < N := by omega
      clear htp hmv hob hgd hbw hmk hew
      go_wp2_with fail
      refine H91.out.mono ?_
      rintro e w5 ⟨⟨ht5, hk5⟩, vp, vo, rfl, ⟨zk, AL, nL, cL, Ak, nk, ck, nx, AB, nB, cB, AO, nO, cO, ca, AN, nN, cN, ri, AM, nM, cM, rfl⟩, ⟨Ap, np, cp, rfl⟩, hitem⟩
      have hb5 : Below w.heap.size w w5 := HB.out.trans (hk5.below HB.out.size fun b e => by omega)
      by_cases hg : goodI (ldS l m)
      · obtain ⟨hps, vk, hrow, hobj⟩ := hitem hg
        rw [decide_eq_true hg]
        obtain ⟨_, _, hpok, hro⟩ := itemS_reads.sound (ldS l m) (HLN.out m).1 hg.1
        obtain ⟨px, hpx⟩ : ∃ p, p = (itemS (ldS l m)).1.1 := ⟨_, rfl⟩
        obtain ⟨ox, hox⟩ : ∃ o, o = (itemS (ldS l m)).1.2 := ⟨_, rfl⟩
        have HNX : Hid (ldT (ldX l (m + 1)) = updT (ldT (ldX l m)) (Pa.zText px) ox) := by
          rw [Hid, ldX_succ, ldT_snoc, hpx, hox]
        have HGN : Hid (∀ j, j < m + 1 → goodI (ldS l j)) := fun j hj => by
          by_cases e : j = m
          · rw [e]; exact hg
          · exact HG.out j (by omega)
        rw [← hpx] at hps hpok
        rw [← hox] at hrow hobj hro
        have hpl : px.length ≤ 10000000 := by have := hpok.1; omega
        obtain ⟨A', c', hA', hpl2⟩ := path_pl hps hpok
        injection hA' with e1 e2 e3
        subst e1 e2 e3
        have hM5 : MapV w5 bm m (ldT (ldX l m)) V := HMV.out.kp hk5 (by omega)
        have hO5 : ∀ s o, ldT (ldX l m) s = some o → ObjAt w5 (fun b => b < w2.heap.size) (V s) o := fun s o h => (HOB.out s o h).kp hk5 (fun b _ e => by omega) fun _ _ h => h
        have hN5 : ObjAt w5 (fun b => b < w2.heap.size) (.agg #[.int .i64 zk, .slice AL nL cL, .slice Ak nk ck, .int .i64 nx, .slice AB nB cB, .slice AO nO cO, .int .i64 ca, .slice AN nN cN, .int .i64 ri, .slice AM nM cM]) ox := ⟨vk, hobj.on (Below.refl _ _) (fun b _ h => .inl (Nat.lt_of_lt_of_le h hszr)), (slv_row hrow).on (Below.refl _ _) fun b _ h => Nat.lt_of_lt_of_le h hszr⟩
        have hz5 : w2.heap.size ≤ w5.heap.size := Nat.le_trans hszr hk5.size
        obtain ⟨Wq, hWq⟩ : ∃ W, W = w5.alloc (.cells #[.int .i64 zk, .slice AL nL cL, .slice Ak nk ck, .int .i64 nx, .slice AB nB cB, .slice AO nO cO, .int .i64 ca, .slice AN nN cN, .int .i64 ri, .slice AM nM cM] 29) := ⟨_, rfl⟩
        have hX0 : BoxAt Wq w5.heap.size #[.int .i64 zk, .slice AL nL cL, .slice Ak nk ck, .int .i64 nx, .slice AB nB cB, .slice AO nO cO, .int .i64 ca, .slice AN nN cN, .int .i64 ri, .slice AM nM cM] 29 := by rw [hWq]; exact BoxAt.new _ _ _
        have hbq : Below w5.heap.size w5 Wq := by rw [hWq]; exact (Below.refl _ _).alloc (Nat.le_refl _) _
        obtain ⟨sx, hsx⟩ : ∃ s, s = Pa.zText px := ⟨_, rfl⟩
        obtain ⟨S, hS⟩ : ∃ S, S = str sx := ⟨_, rfl⟩
        have hsl : sx.length ≤ 100000000000 := by rw [hsx]; have := pathText_len hpok; omega
        have hml : m ≤ 100000000000 := by have := HND.out.2; omega
        have hml1 : m + 1 ≤ 100000000000 := by have := HND.out.2; omega
        have hd : Below Wq.heap.size Wq Wq.drew := (Below.refl _ _).drew
        have hew5 : Env Wq.drew := HE.out.on (next_below (next_below hb5 hbq) hd)
        have R68 := Lib.hid (Pa.text_any (c := cp) hew5 (hpl2.on (hbq.trans (hd.mono hbq.size))).zs hpok.wide hpl)
        rw [← hsx, ← hS] at R68
        have hrun : ∀ W, Below w5.heap.size w5 W → (∀ v, (Instr.mapUpdate 72 (.map (some bm)) (.string S) v).run Tryz.prog W = .ok () (putW bm sx v W)) := fun W hW v => by
          rw [hS]; exact ((hM5.on hW).put hml hsl v).1
        have hrun2 : ∀ W u, Below w5.heap.size w5 W → (∀ v, (Instr.mapUpdate 72 (.map (some bm)) (.string S) v).run Tryz.prog (putW bm sx u W) = .ok () (putW bm sx v (putW bm sx u W))) := fun W u hW v => by
          rw [hS]; exact ((((hM5.on hW).put hml hsl u).2.1 ox).put hml1 hsl v).1
        have mk : ∀ W, Below w5.heap.size w5 W → BoxAt W w5.heap.size #[.int .i64 zk, .slice AL nL cL, .slice Ak nk ck, .int .i64 nx, .slice AB nB cB, .slice AO nO cO, .int .i64 ca, .slice AN nN cN, .int .i64 ri, .slice AM nM cM] 29 → (W).cell? ⟨w5.heap.size, 0, none⟩ = some (.int .i64 zk) ∧ (W).cell? ⟨w5.heap.size, 1, none⟩ = some (.slice AL nL cL) ∧ (W).cell? ⟨w5.heap.size, 2, none⟩ = some (.slice Ak nk ck) ∧ (W).cell? ⟨w5.heap.size, 3, none⟩ = some (.int .i64 nx) ∧ (W).cell? ⟨w5.heap.size, 4, none⟩ = some (.slice AB nB cB) ∧ (W).cell? ⟨w5.heap.size, 5, none⟩ = some (.slice AO nO cO) ∧ (W).cell? ⟨w5.heap.size, 6, none⟩ = some (.int .i64 ca) ∧ (W).cell? ⟨w5.heap.size, 7, none⟩ = some (.slice AN nN cN) ∧ (W).cell? ⟨w5.heap.size, 8, none⟩ = some (.int .i64 ri) ∧ (W).cell? ⟨w5.heap.size, 9, none⟩ = some (.slice AM nM cM) ∧ (∀ v, (Instr.mapUpdate 72 (.map (some bm)) (.string S) v).run Tryz.prog (W) = .ok () (putW bm sx v (W))) := fun W hW hX => by
          obtain ⟨q0, q1, q2, q3, q4, q5, q6, q7, q8, q9⟩ := box10 hX
          exact ⟨q0, q1, q2, q3, q4, q5, q6, q7, q8, q9, hrun W hW⟩
        have mkP : ∀ W u, Below w5.heap.size w5 W → BoxAt W w5.heap.size #[.int .i64 zk, .slice AL nL cL, .slice Ak nk ck, .int .i64 nx, .slice AB nB cB, .slice AO nO cO, .int .i64 ca, .slice AN nN cN, .int .i64 ri, .slice AM nM cM] 29 → (putW bm sx u W).cell? ⟨w5.heap.size, 0, none⟩ = some (.int .i64 zk) ∧ (putW bm sx u W).cell? ⟨w5.heap.size, 1, none⟩ = some (.slice AL nL cL) ∧ (putW bm sx u W).cell? ⟨w5.heap.size, 2, none⟩ = some (.slice Ak nk ck) ∧ (putW bm sx u W).cell? ⟨w5.heap.size, 3, none⟩ = some (.int .i64 nx) ∧ (putW bm sx u W).cell? ⟨w5.heap.size, 4, none⟩ = some (.slice AB nB cB) ∧ (putW bm sx u W).cell? ⟨w5.heap.size, 5, none⟩ = some (.slice AO nO cO) ∧ (putW bm sx u W).cell? ⟨w5.heap.size, 6, none⟩ = some (.int .i64 ca) ∧ (putW bm sx u W).cell? ⟨w5.heap.size, 7, none⟩ = some (.slice AN nN cN) ∧ (putW bm sx u W).cell? ⟨w5.heap.size, 8, none⟩ = some (.int .i64 ri) ∧ (putW bm sx u W).cell? ⟨w5.heap.size, 9, none⟩ = some (.slice AM nM cM) ∧ (∀ v, (Instr.mapUpdate 72 (.map (some bm)) (.string S) v).run Tryz.prog (putW bm sx u W) = .ok () (putW bm sx v (putW bm sx u W))) := fun W u hW hX => by
          have hK : Tp.Kp (fun b => b = bm) W (putW bm sx u W) := (Tp.Kp.refl _ W).grown ((hM5.on hW).put hml hsl u).2.2 fun k e _ => by injection e with e; exact e.symm
          have hX := hX.kp hK (fun e => by omega)
          obtain ⟨q0, q1, q2, q3, q4, q5, q6, q7, q8, q9⟩ := box10 hX
          exact ⟨q0, q1, q2, q3, q4, q5, q6, q7, q8, q9, hrun2 W u hW⟩
        have hbqd := hbq.trans (hd.mono hbq.size)
        have xdr := hX0.drew
        have T5 := Lib.hid ht5
        have M5 := Lib.hid hM5
        have O5 := Lib.hid hO5
        have N5 := Lib.hid hN5
        have HSX := Lib.hid hsx
        have HPX := Lib.hid (⟨hpx, hox⟩ : px = (itemS (ldS l m)).1.1 ∧ ox = (itemS (ldS l m)).1.2)
        have HB5 := Lib.hid hb5
        have HMLS := Lib.hid (⟨hml, hsl⟩ : m ≤ 100000000000 ∧ sx.length ≤ 100000000000)
        clear hg hps hrow hobj hitem hro hpx hox hpok hpl hpl2 hM5 hO5 hN5 hsx hS hew5 hrun hrun2 hk5 ht5 hb5 hml hsl H91
        go_wp2_with fail
        rw [← hWq]
        clear hWq
        go_region_held3 (fun W => (W).cell? ⟨w5.heap.size, 0, none⟩ = some (.int .i64 zk) ∧ (W).cell? ⟨w5.heap.size, 1, none⟩ = some (.slice AL nL cL) ∧ (W).cell? ⟨w5.heap.size, 2, none⟩ = some (.slice Ak nk ck) ∧ (W).cell? ⟨w5.heap.size, 3, none⟩ = some (.int .i64 nx) ∧ (W).cell? ⟨w5.heap.size, 4, none⟩ = some (.slice AB nB cB) ∧ (W).cell? ⟨w5.heap.size, 5, none⟩ = some (.slice AO nO cO) ∧ (W).cell? ⟨w5.heap.size, 6, none⟩ = some (.int .i64 ca) ∧ (W).cell? ⟨w5.heap.size, 7, none⟩ = some (.slice AN nN cN) ∧ (W).cell? ⟨w5.heap.size, 8, none⟩ = some (.int .i64 ri) ∧ (W).cell? ⟨w5.heap.size, 9, none⟩ = some (.slice AM nM cM) ∧ (∀ v, (Instr.mapUpdate 72 (.map (some bm)) (.string S) v).run Tryz.prog (W) = .ok () (putW bm sx v (W))))
          (first | with_reducible exact mkP _ _ B10 x10 | with_reducible exact mk _ B10 x10 | with_reducible exact mk _ hbqd xdr | with_reducible exact mk _ hbq hX0)
          (first | (go_at_call 68; refine R68.out.mono ?_; rintro e w10 ⟨rfl, hb10⟩; have B10 := hbqd.trans (hb10.mono hbqd.size); have x10 := xdr.on hb10; clear hb10))
        have hpt := (M5.out.on B10).put HMLS.out.1 HMLS.out.2 (.agg #[.int .i64 zk, .slice AL nL cL, .slice Ak nk ck, .int .i64 nx, .slice AB nB cB, .slice AO nO cO, .int .i64 ca, .slice AN nN cN, .int .i64 ri, .slice AM nM cM])
        have hgp : Tp.Kp (fun b => b = bm) w10 (putW bm sx (.agg #[.int .i64 zk, .slice AL nL cL, .slice Ak nk ck, .int .i64 nx, .slice AB nB cB, .slice AO nO cO, .int .i64 ca, .slice AN nN cN, .int .i64 ri, .slice AM nM cM]) w10) := (Tp.Kp.refl _ w10).grown hpt.2.2 fun k e _ => by injection e with e; exact e.symm
        have hKt : Tp.Kp (fun b => b = bm) w5 (putW bm sx (.agg #[.int .i64 zk, .slice AL nL cL, .slice Ak nk ck, .int .i64 nx, .slice AB nB cB, .slice AO nO cO, .int .i64 ca, .slice AN nN cN, .int .i64 ri, .slice AM nM cM]) w10) := (Tp.Kp.of_below B10 _).andThen hgp fun _ _ h => h
        obtain ⟨wf, hwf⟩ : ∃ W, W = putW bm sx (.agg #[.int .i64 zk, .slice AL nL cL, .slice Ak nk ck, .int .i64 nx, .slice AB nB cB, .slice AO nO cO, .int .i64 ca, .slice AN nN cN, .int .i64 ri, .slice AM nM cM]) w10 := ⟨_, rfl⟩
        have M6 := hpt.2.1 ox
        rw [← hwf] at hKt M6
        have HFIN : Hid (LdRel w w2 g bm kk l N j (.int .i64 ((m + 1 : Nat) : Int)) wf) := by
          refine ⟨m + 1, by have := HMK.out; omega, rfl, HGN.out, ?_, ⟨_, by rw [HNX.out, ← HSX.out]; exact M6, fun s o h => ?_⟩, HB5.out.trans (hKt.below HB5.out.size fun b e => by omega), Nat.le_trans hz5 hKt.size⟩
          · exact T5.out.kp hKt (by omega) fun j hj => by have := (HKK.out j hj).2; omega
          · rw [HNX.out, ← HSX.out] at h
            unfold updT at h
            unfold updV
            by_cases e : s = sx
            · rw [if_pos e] at h ⊢
              injection h with h
              subst h
              exact N5.out.kp hKt (fun b _ e => by omega) fun _ _ h => h
            · rw [if_neg e] at h ⊢
              exact (O5.out s o h).kp hKt (fun b _ e => by omega) fun _ _ h => h
        clear mk mkP hbqd xdr x10 hX0 hbq hd hpt hgp hKt M6 B10
        rw [← hwf]
        clear hwf
        go_wp2_with fail
        go_roundg j
        case measure => omega
        case rel =>
          obtain ⟨m', a9, b9, c9⟩ := HFIN.out
          have hmN := HND.out.2
          refine ⟨m', a9, Eq.trans ?_ b9, c9⟩
          go_num
      · rw [decide_eq_false hg]
        have HNG : Hid (¬ ∃ M, ValT M ∧ l = tabBytes M) := fun ⟨M, hM, h⟩ => by
          obtain ⟨h1, h2, _⟩ := ld_full HS.out hM h
          rw [HND.out.1] at h1
          exact hg (h2 m (by omega))
        have B5 := Lib.hid hb5
        clear hg hitem ht5 hk5 hb5 H91
        go_wp2_with fail
        go_ret2
        exact .inr ⟨HNG.out, rfl, B5.out.alloc B5.out.size _⟩
end Go.Proofs.YtgcbfggoddkhnaaGreatDoor
