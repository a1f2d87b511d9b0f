/- Lemmas for the law: Zy, Yj, Yk, Yl, Zz. -/
import Derived.Test.YtgcbfggoddkhnaaGreatDoorM21
import Derived.Test.YtgcbfggoddkhnaaGreatDoorM18
import Derived.Test.YtgcbfggoddkhnaaGreatDoorM16
import Derived.Test.YtgcbfggoddkhnaaGreatDoorM19
namespace Go.Proofs.YtgcbfggoddkhnaaGreatDoor
open Go.RowKit
open Pa (encZ zBytes)
theorem snoc_ind {α : Type} {P : List α → Prop} (h0 : P []) (h1 : ∀ xs x, P xs → P (xs ++ [x])) (xs : List α) : P xs := by
 have h : ∀ ys : List α, P ys.reverse := fun ys => by
  induction ys with
  | nil => exact h0
  | cons y r ih => rw [List.reverse_cons]; exact h1 _ _ ih
 have := h xs.reverse
 rwa [List.reverse_reverse] at this
def ldT (xs : Tab) : TT := xs.foldl (fun T x => updT T (Pa.zText x.1) x.2) fun _ => none
def ldL (xs : Tab) : Tab := xs.foldl (fun L x => lay L x.1 x.2) []
theorem ldT_snoc (xs : Tab) (x : Item) : ldT (xs ++ [x]) = updT (ldT xs) (Pa.zText x.1) x.2 := by simp [ldT]
theorem ldL_snoc (xs : Tab) (x : Item) : ldL (xs ++ [x]) = lay (ldL xs) x.1 x.2 := by simp [ldL]
theorem lay_bytes (f : Item → List Nat) (p : List Int) (o : Ob) : ∀ L : Tab, ((lay L p o).flatMap f).length ≤ (L.flatMap f).length + (f (p, o)).length
 | [] => by simp [lay]
 | x :: r => by
  have ih := lay_bytes f p o r
  unfold lay
  split
  · simp only [List.flatMap_cons, List.length_append]; omega
  · split
    · simp only [List.flatMap_cons, List.length_append]; omega
    · simp only [List.flatMap_cons, List.length_append]; omega
theorem isT_none : IsT (fun _ => none) [] := ⟨fun p => rfl, fun s o h => by cases h⟩
theorem ld_ok (xs : Tab) : Asc (ldL xs) ∧ IsT (ldT xs) (ldL xs) ∧ (∀ x ∈ ldL xs, x ∈ xs) ∧ (ldL xs).length ≤ xs.length ∧ ((ldL xs).flatMap itemBytes).length ≤ (xs.flatMap itemBytes).length := by
 induction xs using snoc_ind with
 | h0 => exact ⟨List.Pairwise.nil, isT_none, fun x h => h, Nat.le_refl _, Nat.le_refl _⟩
 | h1 xs x ih =>
  obtain ⟨h1, h2, h3, h4, h5⟩ := ih
  rw [ldL_snoc, ldT_snoc]
  refine ⟨lay_asc h1 _ _, h2.upd h1 _ _, fun y hy => ?_, ?_, ?_⟩
  · rcases lay_key hy with e | e
    · exact List.mem_append_right _ (by rw [e]; simp)
    · exact List.mem_append_left _ (h3 y e)
  · have := lay_len (ldL xs) x.1 x.2
    rw [List.length_append, List.length_singleton]
    omega
  · have := lay_bytes itemBytes x.1 x.2 (ldL xs)
    have e : (itemBytes (x.1, x.2)).length = (itemBytes x).length := rfl
    rw [List.flatMap_append, List.length_append]
    simp only [List.flatMap_cons, List.flatMap_nil, List.append_nil]
    omega
theorem ld_mem {xs : Tab} (hA : Asc xs) : ∀ x, x ∈ ldL xs ↔ x ∈ xs := by
 induction xs using snoc_ind with
 | h0 => exact fun x => Iff.rfl
 | h1 xs x ih =>
  intro y
  obtain ⟨h1, _, h2⟩ := List.pairwise_append.1 hA
  rw [ldL_snoc, lay_mem (ld_ok xs).1, ih h1 y, List.mem_append, List.mem_singleton]
  constructor
  · rintro (h | ⟨h, _⟩)
    · exact .inr h
    · exact .inl h
  · rintro (h | h)
    · exact .inr ⟨h, cmpZ_ne (h2 y h x (by simp))⟩
    · exact .inl h
theorem ld_asc {xs : Tab} (hA : Asc xs) : ldL xs = xs := asc_ext (ld_ok xs).1 hA (ld_mem hA)
theorem sum_quotas (f : Kd → Nat) : ∀ ks : List Kd, (∀ k ∈ ks, 16 * (f k : Int) ≤ k.2.2) → 16 * (((ks.map f).sum : Nat) : Int) ≤ quotas ks
 | [], _ => by simp [quotas]
 | k :: r, h => by
  have h1 := h k (by simp)
  have h2 := sum_quotas f r fun x hx => h x (by simp [hx])
  simp only [List.map_cons, List.sum_cons, quotas]
  omega
theorem ValT.cnt16 {L : Tab} (h : ValT L) : ∀ (n : Nat) (q : List Int) (o : Ob), fnd L q = some o → 7 ≤ q.length + n → 16 * (cnt L q : Int) ≤ uses o
 | 0, q, o, hq, hn => by
  have := (h.pathAt hq).1
  omega
 | n + 1, q, o, hq, hn => by
  have h1 := sum_quotas (fun k => cnt L (q ++ [k.1])) o.kids fun k hk => by
   obtain ⟨d, hd, _, _, hu⟩ := h.kid hq hk
   have := ValT.cnt16 h n (q ++ [k.1]) d hd (by rw [List.length_append, List.length_singleton]; omega)
   omega
  rw [h.cnt_split hq]
  unfold uses
  omega
theorem ValT.len {L : Tab} (h : ValT L) : L.length ≤ 65536 := by
 obtain ⟨r, hr, _⟩ := h.root
 have h1 := h.cnt16 7 [] r hr (by simp)
 have h2 := (quotaP_le h hr).2
 have h3 := h.quota hr
 have h4 : cnt L [] = L.length := by
  unfold cnt
  rw [List.countP_eq_length]
  intro x _
  simp
 rw [h4] at h1
 omega
theorem cat_len80 {x : List UInt8} (h : (catOf x).isSome = true) : x.length ≤ 80 := by
 cases hc : catOf x with
 | none => rw [hc] at h; cases h
 | some p =>
  obtain ⟨⟨⟨hl, hp⟩, hn⟩, hx⟩ := catOf_iff.1 hc
  have h2 := path_len p.1 hp
  have h3 := dec_len7 (u := p.2) (by omega)
  rw [hx]
  unfold catText
  rw [List.length_append, List.length_cons]
  omega
theorem right_len80 {l : List Ent} (h : RightL l) : (l.length : Int) ≤ 8 ∧ ∀ e ∈ l, e.1.length ≤ 80 ∧ 0 ≤ e.2 ∧ e.2 ≤ 3 :=
 ⟨by have := h.1; omega, fun e he => by
  have h1 := entErr_zero.1 (h.2.1 e he).1
  exact ⟨cat_len80 h1.1, h1.2⟩⟩
theorem ObOk.readO {o : Ob} (h : ObOk o) (hs : Tp.Sml o.bytes) : ReadO o where
 kind := by have := h.kind; omega
 lab := right_len80 h.lab
 kids := ⟨by have := h.kids.1; omega, fun k hk => by
  have h1 := h.kids.2.1 k hk
  have h2 := h.next
  unfold KidOk at h1
  omega⟩
 next := h.next
 bytes := ⟨by have := h.bytes; omega, hs⟩
 own := ⟨by have := h.own.1; omega, fun x hx => cat_len80 (h.own.2.2 x hx)⟩
 cats := h.cats
 entry := right_len80 h.entry
 ring := h.ring
 maps := ⟨by have := h.maps.1; omega, fun m hm => by
  have h1 := h.maps.2.1 m hm
  exact ⟨h1.1, h1.2, trivial⟩⟩
theorem sml_tab {L : Tab} (hs : Tp.Sml (tabBytes L)) : ∀ x ∈ L, Tp.Sml x.2.bytes := fun x hx c hc => hs c (by
 unfold tabBytes
 refine List.mem_append_right _ (List.mem_flatMap.2 ⟨x, hx, ?_⟩)
 simp [itemBytes, obBytes, hc])
noncomputable def ldN (l : List Nat) : Nat := (nS 65536 (l, true)).1.toNat
noncomputable def ldS (l : List Nat) (m : Nat) : St := (many itemS m (nS 65536 (l, true)).2).2
noncomputable def ldX (l : List Nat) (m : Nat) : Tab := (many itemS m (nS 65536 (l, true)).2).1
theorem ldX_succ (l : List Nat) (m : Nat) : ldX l (m + 1) = ldX l m ++ [(itemS (ldS l m)).1] := by simp only [ldX, ldS, many]
theorem ldS_succ (l : List Nat) (m : Nat) : ldS l (m + 1) = (itemS (ldS l m)).2 := by simp only [ldS, many]
theorem ldX_len (l : List Nat) (m : Nat) : (ldX l m).length = m := many_len _ _ m
theorem ldS_sml {l : List Nat} (hs : Tp.Sml l) (m : Nat) : Tp.Sml (ldS l m).1 ∧ (ldS l m).1.length ≤ l.length := by
 have h1 := (nS_reads (most := 65536) (by omega)).sml (s := (l, true)) hs
 have h2 := (nS_reads (most := 65536) (by omega)).len (l, true)
 have h3 := many_sml itemS_reads h1 m
 exact ⟨h3.1, Nat.le_trans h3.2 h2⟩
theorem ld_good {l : List Nat} (hs : Tp.Sml l) : ∀ m, (∀ j, j < m → goodI (ldS l j)) → ((ldX l m).flatMap itemBytes).length + (ldS l m).1.length ≤ l.length ∧ ∀ x ∈ ldX l m, Pa.PathOk x.1 ∧ ReadO x.2
 | 0, _ => ⟨by have := (ldS_sml hs 0).2; show 0 + _ ≤ _; omega, fun x h => by cases h⟩
 | m + 1, h => by
  obtain ⟨h1, h2⟩ := ld_good hs m fun j hj => h j (by omega)
  obtain ⟨_, h3, h4⟩ := itemS_reads.sound (ldS l m) (ldS_sml hs m).1 (h m (by omega)).1
  rw [ldX_succ, ldS_succ]
  constructor
  · rw [h3, List.length_append] at h1
    rw [List.flatMap_append, List.length_append]
    simp only [List.flatMap_cons, List.flatMap_nil, List.append_nil]
    omega
  · intro x hx
    rcases List.mem_append.1 hx with hx | hx
    · exact h2 x hx
    · rw [List.mem_singleton] at hx
      rw [hx]
      exact h4
theorem ReadO.wide {o : Ob} (h : ReadO o) : WideO o where
 kind := by have := h.kind; unfold W64; omega
 next := by have := h.next; unfold W64; omega
 cats := by have := h.cats; unfold W64; omega
 ring := by have := h.ring; unfold W64; omega
 lab := ⟨by have := h.lab.1; omega, fun e he => by have := h.lab.2 e he; unfold W64; omega⟩
 entry := ⟨by have := h.entry.1; omega, fun e he => by have := h.entry.2 e he; unfold W64; omega⟩
 bytes := ⟨by have := h.bytes.1; omega, h.bytes.2⟩
 own := ⟨by have := h.own.1; omega, fun x hx => by have := h.own.2 x hx; omega⟩
 kids := ⟨by have := h.kids.1; omega, fun k hk => by have := h.kids.2 k hk; unfold W64; omega⟩
 maps := ⟨by have := h.maps.1; omega, fun m hm => by
  have h1 := (h.maps.2 m hm).1
  have h2 := (h.maps.2 m hm).2.1
  exact ⟨by unfold W64; omega, by have := h2.1; omega, h2.wide⟩⟩
theorem ld_full {l : List Nat} {L : Tab} (hs : Tp.Sml l) (hL : ValT L) (h : l = tabBytes L) : ldN l = L.length ∧ (∀ j, j < L.length → goodI (ldS l j)) ∧ ldX l L.length = L := by
 have hs2 := sml_tab (L := L) (by rw [← h]; exact hs)
 have hlen := hL.len
 have hP : ∀ x ∈ L, Pa.PathOk x.1 ∧ ReadO x.2 := fun x hx => ⟨hL.path x hx, (hL.ob x hx).readO (hs2 x hx)⟩
 have h1 := (nS_reads (most := 65536) (by omega)).full (L.length : Int) (L.flatMap itemBytes) (by omega)
 have hq : encZ (L.length : Int) = Tp.enc L.length := by unfold encZ; rw [if_pos (by omega)]; simp
 rw [hq, show Tp.enc L.length ++ L.flatMap itemBytes = l from h.symm] at h1
 have h2 : ∀ m, m ≤ L.length → many itemS m (nS 65536 (l, true)).2 = (L.take m, (L.drop m).flatMap itemBytes ++ [], true) := fun m hm => by
  rw [h1]
  have := many_full itemS_reads L [] hP m hm
  rwa [List.append_nil] at this
 refine ⟨by unfold ldN; rw [h1]; simp, fun j hj => ?_, by unfold ldX; rw [h2 _ (Nat.le_refl _), List.take_length]⟩
 have h3 : ldS l j = (itemBytes L[j] ++ ((L.drop (j + 1)).flatMap itemBytes ++ []), true) := by
  unfold ldS
  rw [h2 j (by omega), List.drop_eq_getElem_cons hj, List.flatMap_cons, List.append_assoc]
 have h4 := itemS_reads.full L[j] ((L.drop (j + 1)).flatMap itemBytes ++ []) (hP _ (List.getElem_mem hj))
 have h5 := hL.ob _ (List.getElem_mem hj)
 unfold goodI
 rw [h3, h4]
 exact ⟨rfl, h5.lab, h5.own, h5.entry⟩
theorem tabBytes_inj {L M : Tab} (hL : ValT L) (hM : ValT M) (hs : Tp.Sml (tabBytes L)) (h : tabBytes L = tabBytes M) : L = M := by
 obtain ⟨h1, _, h2⟩ := ld_full hs hL rfl
 obtain ⟨h3, _, h4⟩ := ld_full hs hM h
 rw [← h2, ← h1, h3, h4]
theorem ld_sound {l : List Nat} {T : TT} {n : Nat} (hT : T = ldT (ldX l n)) (hv : ValidT T) : ValT (ldL (ldX l n)) ∧ IsT T (ldL (ldX l n)) := by
 obtain ⟨h1, h2, _⟩ := ld_ok (ldX l n)
 rw [hT] at hv ⊢
 exact ⟨valT_of h2 h1 hv, h2⟩
theorem ld_valid {l : List Nat} {L : Tab} (hs : Tp.Sml l) (hL : ValT L) (h : l = tabBytes L) : ValidT (ldT (ldX l (ldN l))) ∧ ldL (ldX l (ldN l)) = L := by
 obtain ⟨h1, _, h3⟩ := ld_full hs hL h
 rw [h1, h3]
 have h4 := (ld_ok L).2.1
 rw [ld_asc hL.asc] at h4
 exact ⟨validT_of h4 hL, ld_asc hL.asc⟩
end Go.Proofs.YtgcbfggoddkhnaaGreatDoor
namespace Go.Proofs.YtgcbfggoddkhnaaGreatDoor
open Go.RowKit
theorem RetAllot.done {w w' : World} {F : Nat → Prop} {t n : Nat} {T : TT} {p : List Int} {q : Int} {e : Ending} (hz : allotR T p q = 0) (he : e = .returned (.int .i64 0)) (h : ∃ F', TabAt w' F' t (n + 1) (allotT T p q) ∧ Stp w F w' F') : RetAllot w F t n T p q e w' := by
 refine ⟨by rw [hz]; exact he, ?_⟩
 rw [if_pos hz]
 exact h
end Go.Proofs.YtgcbfggoddkhnaaGreatDoor
namespace Go.Proofs.YtgcbfggoddkhnaaGreatDoor
open Go.RowKit
end Go.Proofs.YtgcbfggoddkhnaaGreatDoor
namespace Go.Proofs.YtgcbfggoddkhnaaGreatDoor
open Go.RowKit
set_option maxRecDepth 100000 in
theorem bytesEqual_any {w : World} {B B' : Nat} {A A' : Option Addr} {l l' : List Nat} {c c' : Nat} (h : Tp.Bts w B A l) (h' : Tp.Bts w B' A' l') (hs : Tp.Sml l) (hs' : Tp.Sml l') :
   Calls Tryz.prog 92 #[.slice A l.length c, .slice A' l'.length c'] w fun e w' => e = .returned (.bool (decide (l = l'))) ∧ w = w' := by
 have hc := Tp.conv_str h c
 have hc' := Tp.conv_str h' c'
 obtain ⟨S, hS⟩ : ∃ S, S = Tp.str l := ⟨_, rfl⟩
 obtain ⟨S', hS'⟩ : ∃ S, S = Tp.str l' := ⟨_, rfl⟩
 have HE : Hid (S = S' ↔ l = l') := by
   unfold Hid
   rw [hS, hS']
   exact ⟨fun e => Tp.str_inj hs hs' e, fun e => by rw [e]⟩
 rw [← hS] at hc
 rw [← hS'] at hc'
 clear hS hS' h h' hs hs'
 by_cases e : S = S'
 · have hd : Hid (decide (l = l') = true) := decide_eq_true (HE.out.1 e)
   subst e
   go_enter Tryz.func92, Tryz.ntmps92
   go_wp2_with fail
   go_ret
   exact ⟨by rw [hd.out] <;> rfl, rfl⟩
 · have hd : Hid (decide (l = l') = false) := decide_eq_false fun h => e (HE.out.2 h)
   have hb : (S.toList == S'.toList) = false := by
    have h1 : ¬ S.data.toList = S'.data.toList := fun h => e (by rw [str_of S, str_of S', h])
    have h2 := str_differs h1
    rwa [← str_of S, ← str_of S'] at h2
   go_enter Tryz.func92, Tryz.ntmps92
   go_wp2_with fail
   go_ret
   exact ⟨by rw [hd.out] <;> rfl, rfl⟩
end Go.Proofs.YtgcbfggoddkhnaaGreatDoor
namespace Go.Proofs.YtgcbfggoddkhnaaGreatDoor
open Go.RowKit
open Pa (encZ zBytes)
def RetLoad (w : World) (l : List Nat) (e : Ending) (w' : World) : Prop :=
 (∃ L, ValT L ∧ l = tabBytes L ∧ ∃ t' F n' T, e = .returned (.tuple #[.pointer (some ⟨t', 0, none⟩), .int .i64 0]) ∧ n' ≤ 65536 ∧ TabNew w' w.heap.size F t' n' T ∧ IsT T L ∧ Below w.heap.size w w') ∨
  ((¬ ∃ L, ValT L ∧ l = tabBytes L) ∧ e = .returned (.tuple #[.pointer none, .int .i64 10]) ∧ Below w.heap.size w w')
def LdRel (w w2 : World) (g bm : Nat) (kk : Option Nat) (l : List Nat) (N k : Nat) (i : Value) (wr : World) : Prop :=
 ∃ m, m + k = N ∧ i = .int .i64 (m : Int) ∧ (∀ j, j < m → goodI (ldS l j)) ∧ TapeS wr g kk (ldS l m) ∧ (∃ V, MapV wr bm m (ldT (ldX l m)) V ∧ ∀ s o, ldT (ldX l m) s = some o → ObjAt wr (fun b => b < w2.heap.size) (V s) o) ∧ Below w.heap.size w wr ∧ w2.heap.size ≤ wr.heap.size
theorem ldT_read {l : List Nat} (hs : Tp.Sml l) {m : Nat} (hg : ∀ j, j < m → goodI (ldS l j)) {s : List UInt8} {o : Ob} (h : ldT (ldX l m) s = some o) : ∃ p, s = Pa.zText p ∧ Pa.PathOk p ∧ ReadO o := by
 obtain ⟨hA, hI, hm, _, _⟩ := ld_ok (ldX l m)
 obtain ⟨p, rfl⟩ := hI.key s o h
 rw [hI.at'] at h
 have := (ld_good hs m hg).2 _ (hm _ (fnd_mem h))
 exact ⟨p, rfl, this.1, this.2⟩
theorem pathText_len {p : List Int} (h : Pa.PathOk p) : (Pa.zText p).length ≤ 1000000 := by
 have h1 := Pa.zText_len h.wide
 have h2 := h.1
 omega
theorem tabBytes_len {l : List Nat} (hs : Tp.Sml l) (hl : l.length ≤ 70000000) {m : Nat} (hm : m ≤ 65536) (hg : ∀ j, j < m → goodI (ldS l j)) : (tabBytes (ldL (ldX l m))).length ≤ 80000000 := by
 obtain ⟨_, _, _, h1, h2⟩ := ld_ok (ldX l m)
 have h3 := (ld_good hs m hg).1
 rw [ldX_len] at h1
 have h4 := Tp.enc_nine (n := (ldL (ldX l m)).length) (by omega)
 unfold tabBytes
 rw [List.length_append]
 omega
theorem ld_bytes {l : List Nat} (hs : Tp.Sml l) : ∀ m, (∀ j, j < m → goodI (ldS l j)) → ∀ x ∈ ldX l m, Tp.Sml (itemBytes x)
 | 0, _ => fun x h => by cases h
 | m + 1, h => fun x hx => by
  obtain ⟨_, h3, _⟩ := itemS_reads.sound (ldS l m) (ldS_sml hs m).1 (h m (by omega)).1
  rw [ldX_succ] at hx
  rcases List.mem_append.1 hx with hx | hx
  · exact ld_bytes hs m (fun j hj => h j (by omega)) x hx
  · rw [List.mem_singleton] at hx
    intro c hc
    rw [hx] at hc
    exact (ldS_sml hs m).1 c (by rw [h3]; exact List.mem_append_left _ hc)
theorem tabBytes_sml {l : List Nat} (hs : Tp.Sml l) {m : Nat} (hg : ∀ j, j < m → goodI (ldS l j)) : Tp.Sml (tabBytes (ldL (ldX l m))) := fun c hc => by
 unfold tabBytes at hc
 rcases List.mem_append.1 hc with hc | hc
 · exact Tp.enc_sml _ c hc
 · obtain ⟨x, hx, hc⟩ := List.mem_flatMap.1 hc
   exact ld_bytes hs m hg x ((ld_ok _).2.2.1 x hx) c hc
set_option maxRecDepth 100000 in
set_option maxHeartbeats 2000000 in
theorem load_any {w : World} {A : Option Addr} {c : Nat} {l : List Nat} (he : Env w) (hl : Tp.Bts w w.heap.size A l) (hs : Tp.Sml l) (hc : A = none → c = 0) (hn : l.length ≤ 70000000) :
  Calls Tryz.prog 32 #[.slice A l.length c] w (RetLoad w l) := by
 have H89 := Lib.hid (Tp.tape_new hl hc (by omega))
 have HE := Lib.hid he
 have HL := Lib.hid hl
 have HS := Lib.hid hs
 have HN := Lib.hid hn
 have HLN := Lib.hid (show ∀ m, Tp.Sml (ldS l m).1 ∧ (ldS l m).1.length ≤ 80000000 from fun m => ⟨(ldS_sml hs m).1, by have := (ldS_sml hs m).2; omega⟩)
 obtain ⟨N, hN, hN2, hN8⟩ := nS_nat (most := 65536) (by omega) (l, true)
 have HND : Hid (ldN l = N ∧ N ≤ 65536) := ⟨hN2.symm, by omega⟩
 have HNE := Lib.hid hN
 obtain ⟨n0, hn0⟩ : ∃ n, n = l.length := ⟨_, rfl⟩
 have HN0 := Lib.hid hn0
 have hmm := @run_makeMap Tryz.prog
 rw [← hn0] at H89 ⊢
 clear he hl hs hn hc hN hN2 hN8 hn0
 go_enter Tryz.func32, Tryz.ntmps32
 go_wp2_with fail
 refine H89.out.mono ?_
 rintro e w1 ⟨g, kk, rfl, ht1, hg1, hk1, hb1⟩
 have hglt := ht1.lt
 have hwl := HE.out.1
 have hrl := ht1.row_lt
 have hT1 : TapeS w1 g kk (l, true) := .inl ⟨rfl, ht1⟩
 obtain ⟨w2, hw2⟩ : ∃ W, W = w1.alloc (.map #[] 0) := ⟨_, rfl⟩
 have hbm : Below w1.heap.size w1 w2 := by rw [hw2]; exact (Below.refl _ _).alloc (Nat.le_refl _) _
 obtain ⟨bm, hbmv⟩ : ∃ b, b = w1.heap.size := ⟨_, rfl⟩
 have hsz2 : w2.heap.size = bm + 1 := by rw [hw2, hbmv]; simp
 have hM2 : MapV w2 bm 0 (fun _ => none) fun _ => undef := by rw [hw2, hbmv]; exact MapV.made w1
 have hgb : g < bm := by rw [hbmv]; exact hglt
 have hwb : w.heap.size ≤ bm := by rw [hbmv]; exact hb1.size
 have HKK : Hid (∀ j, kk = some j → w.heap.size ≤ j ∧ j < bm) := fun j hj => ⟨hk1 j hj, by rw [hbmv]; exact hrl j hj⟩
 have B2 := Lib.hid (next_below hb1 hbm)
 have T2 := hT1.on hbm
 have J := tapeS_num (most := 65536) T2 (HS.out : Tp.Sml (l, true).1) (by show l.length ≤ _; have := HN.out; omega)
 rw [HNE.out] at J
 have J := Lib.hid J
 have M2 := Lib.hid hM2
 clear ht1 hk1 hb1 hrl hT1 hbm hM2 T2 H89
 go_wp2_with fail
 rw [← hbmv, ← hw2]
 clear hbmv hw2 hmm
 refine J.out.mono ?_
 rintro e w3 ⟨rfl, ht3, hk3⟩
 have T3 : Hid (TapeS w3 g kk (ldS l 0)) := ht3
 have M3 : Hid (MapV w3 bm 0 (fun _ => none) fun _ => undef) := M2.out.kp hk3 (by omega)
 have B3 := Lib.hid (B2.out.trans (hk3.below B2.out.size fun b e => by omega))
 have HZ3 : Hid (w2.heap.size ≤ w3.heap.size) := hk3.size
 clear ht3 hk3 J M2
 go_wp2_with fail
 go_loopg [16] N (fun k i wr => LdRel w w2 g bm kk l N k i wr)
 case atStart => exact ⟨0, by simp, rfl, fun j hj => absurd hj (by omega), T3.out, ⟨fun _ => undef, M3.out, fun s o h => by cases h⟩, B3.out, HZ3.out⟩
 case round =>
  obtain ⟨m, hmk, hi, hgd, htp, ⟨V, hmv, hob⟩, hbw, hszr⟩ := hrel
  subst hi
  have HG := Lib.hid hgd
  have HB := Lib.hid hbw
  have HMK := Lib.hid hmk
  have hew : Env wr := HE.out.on hbw
  cases gk with
  | zero =>
   have hmn : m = N := by omega
   subst hmn
   have HT := Lib.hid (show ∀ s o, ldT (ldX l m) s = some o → s.length ≤ 100000000000 from fun s o h => by
     obtain ⟨p, rfl, h1, _⟩ := ldT_read HS.out HG.out h
     have := pathText_len h1
     omega)
   have H35 := Lib.hid (of_any hew hmv (fun s o h => by
     obtain ⟨p, _, _, h2⟩ := ldT_read HS.out HG.out h
     exact ⟨h2.wide, (hob s o h).read (Below.refl _ _)⟩) HT.out (by have := HND.out.2; omega))
   obtain ⟨T, hT⟩ : ∃ T, T = ldT (ldX l m) := ⟨_, rfl⟩
   have HTE := Lib.hid hT
   rw [← hT] at H35
   have hge : ¬ (m : Int) < m := by omega
   clear htp hmv hob hgd hbw hmk hew hT
   go_wp2_with fail
   refine H35.out.mono ?_
   rintro e w5 (⟨hv, t', F, n', rfl, hn', htab, hstp⟩ | ⟨hv, rfl, hb5⟩)
   · obtain ⟨hVL, hIT⟩ := ld_sound HTE.out hv
     obtain ⟨L, hLd⟩ : ∃ L, L = ldL (ldX l m) := ⟨_, rfl⟩
     have hbl : (tabBytes L).length ≤ 80000000 := by rw [hLd]; exact tabBytes_len HS.out HN.out HND.out.2 HG.out
     have HSM : Hid (Tp.Sml (tabBytes L)) := by rw [hLd]; exact tabBytes_sml HS.out HG.out
     have HU : Hid (∀ M, ValT M → l = tabBytes M → M = L) := fun M hM h => by
       have := (ld_valid HS.out hM h).2
       rw [HND.out.1] at this
       rw [hLd]; exact this.symm
     rw [← hLd] at hVL hIT
     have hew5 : Env w5 := HE.out.on (next_below HB.out hstp)
     have H30 := Lib.hid (bytes_any hew5 (htab.at.read (Below.refl _ _)) hIT hVL.asc hVL.path (by have := HND.out.2; omega) hbl)
     have HV := Lib.hid hVL
     have HI := Lib.hid hIT
     have HTAB := Lib.hid htab
     have HLL : Hid ((tabBytes L).length ≤ 80000000) := hbl
     have HTN : Hid (n' ≤ 65536) := by have := HND.out.2; unfold Hid; omega
     have HB5 : Hid (Below w.heap.size w w5) := next_below HB.out hstp
     clear hv hn' htab hstp hLd hbl hew5 hVL hIT H35
     go_wp2_with fail
     refine H30.out.mono ?_
     rintro e w6 ⟨A6, c6, rfl, r1, r2, r3, r4, r5, r6⟩
     have hB6 := next_below HB5.out r6
     have hlb : Tp.Bts w6 w.heap.size A l := (HL.out).below hB6
     have hsm : Tp.Sml (tabBytes L) := HSM.out
     have H92 := bytesEqual_any (c := c6) (c' := c) r1 hlb hsm HS.out
     rw [← HN0.out] at H92
     have H92 := Lib.hid H92
     have B6 := Lib.hid hB6
     have TB6 := Lib.hid ((HTAB.out.less HB.out.size).on r6)
     clear r1 r2 r3 r4 r5 r6 hB6 hlb hsm H30
     by_cases heq : tabBytes L = l
     · rw [decide_eq_true heq] at H92
       have HEQ := Lib.hid heq
       clear heq
       go_wp2_with fail
       refine H92.out.mono ?_
       rintro e w7 ⟨rfl, rfl⟩
       go_wp2_with fail
       go_ret2
       exact .inl ⟨L, HV.out, HEQ.out.symm, t', F, n', T, rfl, HTN.out, TB6.out, HI.out, B6.out⟩
     · rw [decide_eq_false heq] at H92
       have HEQ := Lib.hid heq
       clear heq
       go_wp2_with fail
       refine H92.out.mono ?_
       rintro e w7 ⟨rfl, rfl⟩
       go_wp2_with fail
       go_ret2
       exact .inr ⟨fun ⟨M, hM, h⟩ => HEQ.out (by rw [← HU.out M hM h]; exact h.symm), rfl, B6.out⟩
   · have HV := Lib.hid hv
     have B5 := Lib.hid (next_below HB.out hb5)
     clear hv hb5 H35
     go_wp2_with fail
     go_ret2
     exact .inr ⟨fun ⟨M, hM, h⟩ => HV.out (by
       have h1 := (ld_valid HS.out hM h).1
       rw [HND.out.1, ← HTE.out] at h1
       exact h1), rfl, B5.out⟩
  | succ j =>
   have hm : m < N := by omega
   have H91 := Lib.hid (tget_any hew (by omega) htp (HLN.out m).1 (HLN.out m).2)
   have HMV := Lib.hid hmv
   have HOB := Lib.hid hob
   have hmlt : (m : Int) < N := by omega
   clear htp hmv hob hgd hbw hmk hew
   go_wp2_with fail
   refine H91.out.mono ?_
   rintro e w5 ⟨⟨ht5, hk5⟩, vp, vo, rfl, ⟨zk, AL, nL, cL, Ak, nk, ck, nx, AB, nB, cB, AO, nO, cO, ca, AN, nN, cN, ri, AM, nM, cM, rfl⟩, ⟨Ap, np, cp, rfl⟩, hitem⟩
   have hb5 : Below w.heap.size w w5 := HB.out.trans (hk5.below HB.out.size fun b e => by omega)
   by_cases hg : goodI (ldS l m)
   · obtain ⟨hps, vk, hrow, hobj⟩ := hitem hg
     rw [decide_eq_true hg]
     obtain ⟨_, _, hpok, hro⟩ := itemS_reads.sound (ldS l m) (HLN.out m).1 hg.1
     obtain ⟨px, hpx⟩ : ∃ p, p = (itemS (ldS l m)).1.1 := ⟨_, rfl⟩
     obtain ⟨ox, hox⟩ : ∃ o, o = (itemS (ldS l m)).1.2 := ⟨_, rfl⟩
     have HNX : Hid (ldT (ldX l (m + 1)) = updT (ldT (ldX l m)) (Pa.zText px) ox) := by
       rw [Hid, ldX_succ, ldT_snoc, hpx, hox]
     have HGN : Hid (∀ j, j < m + 1 → goodI (ldS l j)) := fun j hj => by
       by_cases e : j = m
       · rw [e]; exact hg
       · exact HG.out j (by omega)
     rw [← hpx] at hps hpok
     rw [← hox] at hrow hobj hro
     have hpl : px.length ≤ 10000000 := by have := hpok.1; omega
     obtain ⟨A', c', hA', hpl2⟩ := path_pl hps hpok
     injection hA' with e1 e2 e3
     subst e1 e2 e3
     have hM5 : MapV w5 bm m (ldT (ldX l m)) V := HMV.out.kp hk5 (by omega)
     have hO5 : ∀ s o, ldT (ldX l m) s = some o → ObjAt w5 (fun b => b < w2.heap.size) (V s) o := fun s o h => (HOB.out s o h).kp hk5 (fun b _ e => by omega) fun _ _ h => h
     have hN5 : ObjAt w5 (fun b => b < w2.heap.size) (.agg #[.int .i64 zk, .slice AL nL cL, .slice Ak nk ck, .int .i64 nx, .slice AB nB cB, .slice AO nO cO, .int .i64 ca, .slice AN nN cN, .int .i64 ri, .slice AM nM cM]) ox := ⟨vk, hobj.on (Below.refl _ _) (fun b _ h => .inl (Nat.lt_of_lt_of_le h hszr)), (slv_row hrow).on (Below.refl _ _) fun b _ h => Nat.lt_of_lt_of_le h hszr⟩
     have hz5 : w2.heap.size ≤ w5.heap.size := Nat.le_trans hszr hk5.size
     obtain ⟨Wq, hWq⟩ : ∃ W, W = w5.alloc (.cells #[.int .i64 zk, .slice AL nL cL, .slice Ak nk ck, .int .i64 nx, .slice AB nB cB, .slice AO nO cO, .int .i64 ca, .slice AN nN cN, .int .i64 ri, .slice AM nM cM] 29) := ⟨_, rfl⟩
     have hX0 : BoxAt Wq w5.heap.size #[.int .i64 zk, .slice AL nL cL, .slice Ak nk ck, .int .i64 nx, .slice AB nB cB, .slice AO nO cO, .int .i64 ca, .slice AN nN cN, .int .i64 ri, .slice AM nM cM] 29 := by rw [hWq]; exact BoxAt.new _ _ _
     have hbq : Below w5.heap.size w5 Wq := by rw [hWq]; exact (Below.refl _ _).alloc (Nat.le_refl _) _
     obtain ⟨sx, hsx⟩ : ∃ s, s = Pa.zText px := ⟨_, rfl⟩
     obtain ⟨S, hS⟩ : ∃ S, S = str sx := ⟨_, rfl⟩
     have hsl : sx.length ≤ 100000000000 := by rw [hsx]; have := pathText_len hpok; omega
     have hml : m ≤ 100000000000 := by have := HND.out.2; omega
     have hml1 : m + 1 ≤ 100000000000 := by have := HND.out.2; omega
     have hd : Below Wq.heap.size Wq Wq.drew := (Below.refl _ _).drew
     have hew5 : Env Wq.drew := HE.out.on (next_below (next_below hb5 hbq) hd)
     have R68 := Lib.hid (Pa.text_any (c := cp) hew5 (hpl2.on (hbq.trans (hd.mono hbq.size))).zs hpok.wide hpl)
     rw [← hsx, ← hS] at R68
     have hrun : ∀ W, Below w5.heap.size w5 W → (∀ v, (Instr.mapUpdate 72 (.map (some bm)) (.string S) v).run Tryz.prog W = .ok () (putW bm sx v W)) := fun W hW v => by
       rw [hS]; exact ((hM5.on hW).put hml hsl v).1
     have hrun2 : ∀ W u, Below w5.heap.size w5 W → (∀ v, (Instr.mapUpdate 72 (.map (some bm)) (.string S) v).run Tryz.prog (putW bm sx u W) = .ok () (putW bm sx v (putW bm sx u W))) := fun W u hW v => by
       rw [hS]; exact ((((hM5.on hW).put hml hsl u).2.1 ox).put hml1 hsl v).1
     have mk : ∀ W, Below w5.heap.size w5 W → BoxAt W w5.heap.size #[.int .i64 zk, .slice AL nL cL, .slice Ak nk ck, .int .i64 nx, .slice AB nB cB, .slice AO nO cO, .int .i64 ca, .slice AN nN cN, .int .i64 ri, .slice AM nM cM] 29 → (W).cell? ⟨w5.heap.size, 0, none⟩ = some (.int .i64 zk) ∧ (W).cell? ⟨w5.heap.size, 1, none⟩ = some (.slice AL nL cL) ∧ (W).cell? ⟨w5.heap.size, 2, none⟩ = some (.slice Ak nk ck) ∧ (W).cell? ⟨w5.heap.size, 3, none⟩ = some (.int .i64 nx) ∧ (W).cell? ⟨w5.heap.size, 4, none⟩ = some (.slice AB nB cB) ∧ (W).cell? ⟨w5.heap.size, 5, none⟩ = some (.slice AO nO cO) ∧ (W).cell? ⟨w5.heap.size, 6, none⟩ = some (.int .i64 ca) ∧ (W).cell? ⟨w5.heap.size, 7, none⟩ = some (.slice AN nN cN) ∧ (W).cell? ⟨w5.heap.size, 8, none⟩ = some (.int .i64 ri) ∧ (W).cell? ⟨w5.heap.size, 9, none⟩ = some (.slice AM nM cM) ∧ (∀ v, (Instr.mapUpdate 72 (.map (some bm)) (.string S) v).run Tryz.prog (W) = .ok () (putW bm sx v (W))) := fun W hW hX => by
       obtain ⟨q0, q1, q2, q3, q4, q5, q6, q7, q8, q9⟩ := box10 hX
       exact ⟨q0, q1, q2, q3, q4, q5, q6, q7, q8, q9, hrun W hW⟩
     have mkP : ∀ W u, Below w5.heap.size w5 W → BoxAt W w5.heap.size #[.int .i64 zk, .slice AL nL cL, .slice Ak nk ck, .int .i64 nx, .slice AB nB cB, .slice AO nO cO, .int .i64 ca, .slice AN nN cN, .int .i64 ri, .slice AM nM cM] 29 → (putW bm sx u W).cell? ⟨w5.heap.size, 0, none⟩ = some (.int .i64 zk) ∧ (putW bm sx u W).cell? ⟨w5.heap.size, 1, none⟩ = some (.slice AL nL cL) ∧ (putW bm sx u W).cell? ⟨w5.heap.size, 2, none⟩ = some (.slice Ak nk ck) ∧ (putW bm sx u W).cell? ⟨w5.heap.size, 3, none⟩ = some (.int .i64 nx) ∧ (putW bm sx u W).cell? ⟨w5.heap.size, 4, none⟩ = some (.slice AB nB cB) ∧ (putW bm sx u W).cell? ⟨w5.heap.size, 5, none⟩ = some (.slice AO nO cO) ∧ (putW bm sx u W).cell? ⟨w5.heap.size, 6, none⟩ = some (.int .i64 ca) ∧ (putW bm sx u W).cell? ⟨w5.heap.size, 7, none⟩ = some (.slice AN nN cN) ∧ (putW bm sx u W).cell? ⟨w5.heap.size, 8, none⟩ = some (.int .i64 ri) ∧ (putW bm sx u W).cell? ⟨w5.heap.size, 9, none⟩ = some (.slice AM nM cM) ∧ (∀ v, (Instr.mapUpdate 72 (.map (some bm)) (.string S) v).run Tryz.prog (putW bm sx u W) = .ok () (putW bm sx v (putW bm sx u W))) := fun W u hW hX => by
       have hK : Tp.Kp (fun b => b = bm) W (putW bm sx u W) := (Tp.Kp.refl _ W).grown ((hM5.on hW).put hml hsl u).2.2 fun k e _ => by injection e with e; exact e.symm
       have hX := hX.kp hK (fun e => by omega)
       obtain ⟨q0, q1, q2, q3, q4, q5, q6, q7, q8, q9⟩ := box10 hX
       exact ⟨q0, q1, q2, q3, q4, q5, q6, q7, q8, q9, hrun2 W u hW⟩
     have hbqd := hbq.trans (hd.mono hbq.size)
     have xdr := hX0.drew
     have T5 := Lib.hid ht5
     have M5 := Lib.hid hM5
     have O5 := Lib.hid hO5
     have N5 := Lib.hid hN5
     have HSX := Lib.hid hsx
     have HPX := Lib.hid (⟨hpx, hox⟩ : px = (itemS (ldS l m)).1.1 ∧ ox = (itemS (ldS l m)).1.2)
     have HB5 := Lib.hid hb5
     have HMLS := Lib.hid (⟨hml, hsl⟩ : m ≤ 100000000000 ∧ sx.length ≤ 100000000000)
     clear hg hps hrow hobj hitem hro hpx hox hpok hpl hpl2 hM5 hO5 hN5 hsx hS hew5 hrun hrun2 hk5 ht5 hb5 hml hsl H91
     go_wp2_with fail
     rw [← hWq]
     clear hWq
     go_region_held3 (fun W => (W).cell? ⟨w5.heap.size, 0, none⟩ = some (.int .i64 zk) ∧ (W).cell? ⟨w5.heap.size, 1, none⟩ = some (.slice AL nL cL) ∧ (W).cell? ⟨w5.heap.size, 2, none⟩ = some (.slice Ak nk ck) ∧ (W).cell? ⟨w5.heap.size, 3, none⟩ = some (.int .i64 nx) ∧ (W).cell? ⟨w5.heap.size, 4, none⟩ = some (.slice AB nB cB) ∧ (W).cell? ⟨w5.heap.size, 5, none⟩ = some (.slice AO nO cO) ∧ (W).cell? ⟨w5.heap.size, 6, none⟩ = some (.int .i64 ca) ∧ (W).cell? ⟨w5.heap.size, 7, none⟩ = some (.slice AN nN cN) ∧ (W).cell? ⟨w5.heap.size, 8, none⟩ = some (.int .i64 ri) ∧ (W).cell? ⟨w5.heap.size, 9, none⟩ = some (.slice AM nM cM) ∧ (∀ v, (Instr.mapUpdate 72 (.map (some bm)) (.string S) v).run Tryz.prog (W) = .ok () (putW bm sx v (W))))
       (first | with_reducible exact mkP _ _ B10 x10 | with_reducible exact mk _ B10 x10 | with_reducible exact mk _ hbqd xdr | with_reducible exact mk _ hbq hX0)
       (first | (go_at_call 68; refine R68.out.mono ?_; rintro e w10 ⟨rfl, hb10⟩; have B10 := hbqd.trans (hb10.mono hbqd.size); have x10 := xdr.on hb10; clear hb10))
     have hpt := (M5.out.on B10).put HMLS.out.1 HMLS.out.2 (.agg #[.int .i64 zk, .slice AL nL cL, .slice Ak nk ck, .int .i64 nx, .slice AB nB cB, .slice AO nO cO, .int .i64 ca, .slice AN nN cN, .int .i64 ri, .slice AM nM cM])
     have hgp : Tp.Kp (fun b => b = bm) w10 (putW bm sx (.agg #[.int .i64 zk, .slice AL nL cL, .slice Ak nk ck, .int .i64 nx, .slice AB nB cB, .slice AO nO cO, .int .i64 ca, .slice AN nN cN, .int .i64 ri, .slice AM nM cM]) w10) := (Tp.Kp.refl _ w10).grown hpt.2.2 fun k e _ => by injection e with e; exact e.symm
     have hKt : Tp.Kp (fun b => b = bm) w5 (putW bm sx (.agg #[.int .i64 zk, .slice AL nL cL, .slice Ak nk ck, .int .i64 nx, .slice AB nB cB, .slice AO nO cO, .int .i64 ca, .slice AN nN cN, .int .i64 ri, .slice AM nM cM]) w10) := (Tp.Kp.of_below B10 _).andThen hgp fun _ _ h => h
     obtain ⟨wf, hwf⟩ : ∃ W, W = putW bm sx (.agg #[.int .i64 zk, .slice AL nL cL, .slice Ak nk ck, .int .i64 nx, .slice AB nB cB, .slice AO nO cO, .int .i64 ca, .slice AN nN cN, .int .i64 ri, .slice AM nM cM]) w10 := ⟨_, rfl⟩
     have M6 := hpt.2.1 ox
     rw [← hwf] at hKt M6
     have HFIN : Hid (LdRel w w2 g bm kk l N j (.int .i64 ((m + 1 : Nat) : Int)) wf) := by
       refine ⟨m + 1, by have := HMK.out; omega, rfl, HGN.out, ?_, ⟨_, by rw [HNX.out, ← HSX.out]; exact M6, fun s o h => ?_⟩, HB5.out.trans (hKt.below HB5.out.size fun b e => by omega), Nat.le_trans hz5 hKt.size⟩
       · exact T5.out.kp hKt (by omega) fun j hj => by have := (HKK.out j hj).2; omega
       · rw [HNX.out, ← HSX.out] at h
         unfold updT at h
         unfold updV
         by_cases e : s = sx
         · rw [if_pos e] at h ⊢
           injection h with h
           subst h
           exact N5.out.kp hKt (fun b _ e => by omega) fun _ _ h => h
         · rw [if_neg e] at h ⊢
           exact (O5.out s o h).kp hKt (fun b _ e => by omega) fun _ _ h => h
     clear mk mkP hbqd xdr x10 hX0 hbq hd hpt hgp hKt M6 B10
     rw [← hwf]
     clear hwf
     go_wp2_with fail
     go_roundg j
     case measure => omega
     case rel =>
       obtain ⟨m', a9, b9, c9⟩ := HFIN.out
       have hmN := HND.out.2
       refine ⟨m', a9, Eq.trans ?_ b9, c9⟩
       go_num
   · rw [decide_eq_false hg]
     have HNG : Hid (¬ ∃ M, ValT M ∧ l = tabBytes M) := fun ⟨M, hM, h⟩ => by
       obtain ⟨h1, h2, _⟩ := ld_full HS.out hM h
       rw [HND.out.1] at h1
       exact hg (h2 m (by omega))
     have B5 := Lib.hid hb5
     clear hg hitem ht5 hk5 hb5 H91
     go_wp2_with fail
     go_ret2
     exact .inr ⟨HNG.out, rfl, B5.out.alloc B5.out.size _⟩
end Go.Proofs.YtgcbfggoddkhnaaGreatDoor
