/- Lemmas for the law: Za, Xt, Xp, Xr. -/
import Derived.Test.YtgcbfggoddkhnaaGreatDoorM06
import Derived.Test.YtgcbfggoddkhnaaGreatDoorM11
import Derived.Test.YtgcbfggoddkhnaaGreatDoorM09
import Derived.Test.YtgcbfggoddkhnaaGreatDoorM08
import Derived.Test.YtgcbfggoddkhnaaGreatDoorM10
namespace Go.Proofs.YtgcbfggoddkhnaaGreatDoor
open Go.RowKit
open Pa (numStep encZ zBytes)
abbrev St := List Nat × Bool
noncomputable def nS (most : Int) (s : St) : Int × St := numStep s.1 s.2 most
noncomputable def txtAt (l : List Nat) (most : Int) : Option (List Nat × List Nat) :=
 open Classical in if h : ∃ x : List Nat × List Nat, l = Tp.enc x.1.length ++ (x.1 ++ x.2) ∧ (x.1.length : Int) ≤ most ∧ x.1.length < 9223372036854775808 then some h.choose else none
theorem txtAt_some {l s r : List Nat} {most : Int} (h : l = Tp.enc s.length ++ (s ++ r)) (h1 : (s.length : Int) ≤ most) (h2 : s.length < 9223372036854775808) : txtAt l most = some (s, r) := by
 have hx : ∃ x : List Nat × List Nat, l = Tp.enc x.1.length ++ (x.1 ++ x.2) ∧ (x.1.length : Int) ≤ most ∧ x.1.length < 9223372036854775808 := ⟨(s, r), h, h1, h2⟩
 unfold txtAt
 rw [dif_pos hx]
 have hc := hx.choose_spec
 have e := Tp.enc_prefix (hc.1.symm.trans h)
 have e2 := List.append_inj e.2 e.1
 congr 1
 exact Prod.ext e2.1 e2.2
theorem txtAt_none {l : List Nat} {most : Int} (h : Tp.NoTxt l most) : txtAt l most = none := by
 unfold txtAt
 rw [dif_neg]
 rintro ⟨⟨s, r⟩, h1, h2, h3⟩
 have := h s r h1 h3
 simp at h2
 omega
theorem txtAt_spec {l : List Nat} {most : Int} {x : List Nat × List Nat} (h : txtAt l most = some x) : l = Tp.enc x.1.length ++ (x.1 ++ x.2) ∧ (x.1.length : Int) ≤ most ∧ x.1.length < 9223372036854775808 := by
 unfold txtAt at h
 split at h
 · rename_i hx
   injection h with h
   rw [← h]
   exact hx.choose_spec
 · cases h
noncomputable def tS (most : Int) (s : St) : List Nat × St :=
 if s.2 then
  match txtAt s.1 most with
  | some x => (x.1, x.2, true)
  | none => ([], s.1, false)
 else ([], s.1, false)
theorem tS_some {l s r : List Nat} {most : Int} (h : l = Tp.enc s.length ++ (s ++ r)) (h1 : (s.length : Int) ≤ most) (h2 : s.length < 9223372036854775808) : tS most (l, true) = (s, r, true) := by
 unfold tS
 rw [if_pos rfl]
 simp only
 rw [txtAt_some h h1 h2]
theorem tS_none {l : List Nat} {most : Int} (h : Tp.NoTxt l most) : tS most (l, true) = ([], l, false) := by
 unfold tS
 rw [if_pos rfl]
 simp only
 rw [txtAt_none h]
structure Reads {α : Type} (f : St → α × St) (enc : α → List Nat) (P : α → Prop) : Prop where
 sound : ∀ s : St, Tp.Sml s.1 → (f s).2.2 = true → s.2 = true ∧ s.1 = enc (f s).1 ++ (f s).2.1 ∧ P (f s).1
 full : ∀ (x : α) (r : List Nat), P x → f (enc x ++ r, true) = (x, r, true)
 less : ∀ s : St, ∃ p, s.1 = p ++ (f s).2.1
 stuck : ∀ l : List Nat, (f (l, false)).2 = (l, false)
theorem Reads.len {α : Type} {f : St → α × St} {enc : α → List Nat} {P : α → Prop} (h : Reads f enc P) (s : St) : (f s).2.1.length ≤ s.1.length := by
 obtain ⟨p, hp⟩ := h.less s
 have := congrArg List.length hp
 rw [List.length_append] at this
 omega
theorem Reads.sml {α : Type} {f : St → α × St} {enc : α → List Nat} {P : α → Prop} (h : Reads f enc P) {s : St} (hs : Tp.Sml s.1) : Tp.Sml (f s).2.1 := fun c hc => by
 obtain ⟨p, hp⟩ := h.less s
 exact hs c (by rw [hp]; exact List.mem_append_right _ hc)
theorem nS_reads {most : Int} (h : most ≤ 4611686018427387903) : Reads (nS most) encZ fun z => 0 ≤ z ∧ z ≤ most where
 sound := by
  rintro ⟨l, ok⟩ hsm hk
  unfold nS at hk ⊢
  cases ok with
  | false => cases hk
  | true =>
   unfold numStep at hk ⊢
   rw [if_pos rfl] at hk ⊢
   cases hn : Pa.numAt l most with
   | none => simp only [hn] at hk; cases hk
   | some x =>
    simp only
    have hx := Pa.numAt_spec hn
    refine ⟨trivial, ?_, by omega, hx.2.1⟩
    unfold encZ
    rw [if_pos (by omega)]
    simpa using hx.1
 full := by
  intro x r hx
  unfold nS encZ
  rw [if_pos (by omega)]
  have := Pa.numStep_some (l := Tp.enc x.toNat ++ r) (most := most) rfl (by omega) (by omega)
  rw [this]
  simp only [Prod.mk.injEq, and_true]
  omega
 less := fun s => Pa.numStep_end _ _ _
 stuck := fun l => rfl
theorem tS_reads {most : Int} (h : most ≤ 4611686018427387903) : Reads (tS most) (fun s => Tp.enc s.length ++ s) fun s => (s.length : Int) ≤ most ∧ Tp.Sml s where
 sound := by
  rintro ⟨l, ok⟩ hsm hk
  cases ok with
  | false => cases hk
  | true =>
   unfold tS at hk ⊢
   rw [if_pos rfl] at hk ⊢
   cases hn : txtAt l most with
   | none => simp only [hn] at hk; cases hk
   | some x =>
    simp only
    have hx := txtAt_spec hn
    exact ⟨trivial, by rw [List.append_assoc]; exact hx.1, hx.2.1, fun c hc => hsm c (by rw [hx.1]; exact List.mem_append_right _ (List.mem_append_left _ hc))⟩
 full := fun x r hx => tS_some (by rw [List.append_assoc]) hx.1 (by have := hx.1; omega)
 less := by
  rintro ⟨l, ok⟩
  cases ok with
  | false => exact ⟨[], rfl⟩
  | true =>
   unfold tS
   rw [if_pos rfl]
   cases hn : txtAt l most with
   | none => exact ⟨[], rfl⟩
   | some x => exact ⟨Tp.enc x.1.length ++ x.1, by simp only; rw [List.append_assoc]; exact (txtAt_spec hn).1⟩
 stuck := fun l => rfl
noncomputable def many {α : Type} (f : St → α × St) : Nat → St → List α × St
 | 0, s => ([], s)
 | n + 1, s => ((many f n s).1 ++ [(f (many f n s).2).1], (f (many f n s).2).2)
theorem many_len {α : Type} (f : St → α × St) (s : St) : ∀ n, (many f n s).1.length = n
 | 0 => rfl
 | n + 1 => by rw [many]; simp [many_len f s n]
theorem many_full {α : Type} {f : St → α × St} {enc : α → List Nat} {P : α → Prop} (h : Reads f enc P) (xs : List α) (r : List Nat) (hx : ∀ x ∈ xs, P x) : ∀ m, m ≤ xs.length → many f m (xs.flatMap enc ++ r, true) = (xs.take m, (xs.drop m).flatMap enc ++ r, true)
 | 0, _ => by simp [many]
 | m + 1, hm => by
  have hlt : m < xs.length := by omega
  have e : xs.drop m = xs[m] :: xs.drop (m + 1) := List.drop_eq_getElem_cons hlt
  have h1 := h.full xs[m] ((xs.drop (m + 1)).flatMap enc ++ r) (hx _ (List.getElem_mem hlt))
  rw [many, many_full h xs r hx m (by omega)]
  simp only
  rw [e, List.flatMap_cons, List.append_assoc, h1, List.take_add_one, List.getElem?_eq_getElem hlt]
  rfl
theorem many_less {α : Type} {f : St → α × St} {enc : α → List Nat} {P : α → Prop} (h : Reads f enc P) (s : St) : ∀ n, ∃ p, s.1 = p ++ (many f n s).2.1
 | 0 => ⟨[], rfl⟩
 | n + 1 => by
  obtain ⟨p, hp⟩ := many_less h s n
  obtain ⟨q, hq⟩ := h.less (many f n s).2
  refine ⟨p ++ q, ?_⟩
  rw [many]
  simp only
  rw [List.append_assoc, ← hq]
  exact hp
theorem many_sml {α : Type} {f : St → α × St} {enc : α → List Nat} {P : α → Prop} (h : Reads f enc P) {s : St} (hs : Tp.Sml s.1) (n : Nat) : Tp.Sml (many f n s).2.1 ∧ (many f n s).2.1.length ≤ s.1.length := by
 obtain ⟨p, hp⟩ := many_less h s n
 refine ⟨fun c hc => hs c (by rw [hp]; exact List.mem_append_right _ hc), ?_⟩
 have := congrArg List.length hp
 rw [List.length_append] at this
 omega
theorem many_reads {α : Type} {f : St → α × St} {enc : α → List Nat} {P : α → Prop} (h : Reads f enc P) (n : Nat) : Reads (many f n) (fun xs => xs.flatMap enc) fun xs => xs.length = n ∧ ∀ x ∈ xs, P x where
 sound := by
  induction n with
  | zero => exact fun s _ hs => ⟨hs, rfl, rfl, fun x hx => by cases hx⟩
  | succ n ih =>
   intro s hsm hs
   rw [many] at hs ⊢
   simp only at hs ⊢
   obtain ⟨h1, h2, h3⟩ := h.sound _ (many_sml h hsm n).1 hs
   obtain ⟨h4, h5, h6, h7⟩ := ih s hsm h1
   refine ⟨h4, ?_, by simp [h6], fun x hx => ?_⟩
   · rw [List.flatMap_append, List.append_assoc]
     simp only [List.flatMap_cons, List.flatMap_nil, List.append_nil]
     rw [← h2]
     exact h5
   · rcases List.mem_append.1 hx with hx | hx
     · exact h7 x hx
     · simp at hx; subst hx; exact h3
 full := fun xs r hx => by
  have := many_full h xs r hx.2 xs.length (Nat.le_refl _)
  rw [← hx.1, this]
  simp
 less := fun s => many_less h s n
 stuck := by
  induction n with
  | zero => exact fun l => rfl
  | succ n ih =>
   intro l
   rw [many]
   simp only
   rw [ih, h.stuck]
theorem Reads.and {α β : Type} {f : St → α × St} {g : St → β × St} {ea : α → List Nat} {eb : β → List Nat} {P : α → Prop} {Q : β → Prop} (hf : Reads f ea P) (hg : Reads g eb Q) :
  Reads (fun s => (((f s).1, (g (f s).2).1), (g (f s).2).2)) (fun x => ea x.1 ++ eb x.2) fun x => P x.1 ∧ Q x.2 where
 sound := fun s hsm hs => by
  obtain ⟨h1, h2, h3⟩ := hg.sound _ (hf.sml hsm) hs
  obtain ⟨h4, h5, h6⟩ := hf.sound _ hsm h1
  exact ⟨h4, by simp only; rw [List.append_assoc, ← h2]; exact h5, h6, h3⟩
 full := fun x r hx => by
  try simp only
  rw [List.append_assoc, hf.full _ _ hx.1]
  try simp only
  rw [hg.full _ _ hx.2]
 less := fun s => by
  obtain ⟨p, hp⟩ := hf.less s
  obtain ⟨q, hq⟩ := hg.less (f s).2
  exact ⟨p ++ q, by simp only; rw [List.append_assoc, ← hq]; exact hp⟩
 stuck := fun l => by simp only; rw [hf.stuck, hg.stuck]
theorem Reads.iso {α β : Type} {f : St → α × St} {ea : α → List Nat} {P : α → Prop} (hf : Reads f ea P) (to9 : α → β) (from' : β → α) {eb : β → List Nat} {Q : β → Prop} (h1 : ∀ x, P x → eb (to9 x) = ea x) (h2 : ∀ x, P x → Q (to9 x)) (h3 : ∀ y, Q y → P (from' y) ∧ ea (from' y) = eb y ∧ to9 (from' y) = y) :
  Reads (fun s => (to9 (f s).1, (f s).2)) eb Q where
 sound := fun s hsm hs => by
  obtain ⟨a, b, c⟩ := hf.sound s hsm hs
  exact ⟨a, by simp only; rw [h1 _ c]; exact b, h2 _ c⟩
 full := fun y r hy => by
  obtain ⟨a, b, c⟩ := h3 y hy
  try simp only
  rw [← b, hf.full _ _ a]
  simp only
  rw [c]
 less := hf.less
 stuck := fun l => by simp only; rw [hf.stuck]
noncomputable def cntS {α : Type} (most : Int) (f : St → α × St) (s : St) : List α × St := many f (nS most s).1.toNat (nS most s).2
theorem cntS_reads {α : Type} {f : St → α × St} {enc : α → List Nat} {P : α → Prop} (h : Reads f enc P) {most : Int} (h0 : 0 ≤ most) (hm : most ≤ 4611686018427387903) :
  Reads (cntS most f) (fun xs => Tp.enc xs.length ++ xs.flatMap enc) fun xs => (xs.length : Int) ≤ most ∧ ∀ x ∈ xs, P x where
 sound := fun s hsm hs => by
  have h1 := (many_reads h _).sound _ ((nS_reads hm).sml hsm) hs
  have h2 := (nS_reads hm).sound _ hsm h1.1
  unfold cntS
  have h3 : encZ (nS most s).1 = Tp.enc (many f (nS most s).1.toNat (nS most s).2).1.length := by
    unfold encZ
    rw [if_pos (by have := h2.2.2; omega), h1.2.2.1]
  refine ⟨h2.1, ?_, ?_, h1.2.2.2⟩
  · rw [List.append_assoc, ← h3, ← h1.2.1]
    exact h2.2.1
  · rw [h1.2.2.1]
    have := h2.2.2
    omega
 full := fun xs r hx => by
  unfold cntS
  have h1 := (nS_reads hm).full (xs.length : Int) (xs.flatMap enc ++ r) ⟨by omega, hx.1⟩
  have h3 : encZ (xs.length : Int) = Tp.enc xs.length := by
    unfold encZ
    rw [if_pos (by have := hx.1; omega), Int.toNat_natCast]
  rw [h3] at h1
  rw [List.append_assoc, h1]
  simp only [Int.toNat_natCast]
  exact (many_reads h xs.length).full xs r ⟨rfl, hx.2⟩
 less := fun s => by
  obtain ⟨p, hp⟩ := (nS_reads hm).less s
  obtain ⟨q, hq⟩ := (many_reads h (nS most s).1.toNat).less (nS most s).2
  exact ⟨p ++ q, by unfold cntS; rw [List.append_assoc, ← hq]; exact hp⟩
 stuck := fun l => by
  unfold cntS
  rw [show (nS most (l, false)).2 = (l, false) from rfl, (many_reads h _).stuck]
def cat (l : List Nat) : List UInt8 := l.map UInt8.ofNat
theorem cat_bys {l : List Nat} (h : Tp.Sml l) : Tp.bys (str (cat l)) = l := by
 unfold Tp.bys cat
 rw [show (str (l.map UInt8.ofNat)).data.toList = l.map UInt8.ofNat from str_list _, List.map_map]
 refine (List.map_congr_left fun c hc => ?_).trans (List.map_id l)
 have := h c hc
 simp only [Function.comp_def, id]
 rw [UInt8.toNat_ofNat']
 omega
theorem cat_str {l : List Nat} (h : Tp.Sml l) : Tp.str l = str (cat l) := by
 rw [← cat_bys h, Tp.str_bys, cat_bys h]
theorem bys_cat (x : List UInt8) : cat (Tp.bys (str x)) = x := by
 unfold cat Tp.bys
 rw [str_list, List.map_map]
 refine (List.map_congr_left fun c _ => ?_).trans (List.map_id x)
 simp
theorem catl_len (l : List Nat) : (cat l).length = l.length := by simp [cat]
theorem bys_len (x : List UInt8) : (Tp.bys (str x)).length = x.length := by rw [Tp.bys_length, str_size]
theorem txt_eq (x : List UInt8) : Tp.txt (str x) = Tp.enc (Tp.bys (str x)).length ++ Tp.bys (str x) := by
 unfold Tp.txt
 rw [Tp.bys_length]
def entBytes (e : Ent) : List Nat := Tp.txt (str e.1) ++ encZ e.2
def labBytes (l : List Ent) : List Nat := Tp.enc l.length ++ l.flatMap entBytes
def kidBytes (k : Kd) : List Nat := encZ k.1 ++ (encZ k.2.1 ++ encZ k.2.2)
def mapBytes (m : Mp) : List Nat := encZ m.1 ++ (zBytes m.2.1 ++ encZ (if m.2.2 then 1 else 0))
def obBytes (o : Ob) : List Nat :=
 encZ o.kind ++ (labBytes o.lab ++ ((Tp.enc o.kids.length ++ o.kids.flatMap kidBytes) ++ (encZ o.next ++ ((Tp.enc o.bytes.length ++ o.bytes) ++ (ownBytes o.own ++ (encZ o.cats ++ (labBytes o.entry ++ (encZ o.ring ++ (Tp.enc o.maps.length ++ o.maps.flatMap mapBytes)))))))))
noncomputable def pathS (s : St) : List Int × St := cntS 6 (nS 1048576) s
theorem pathS_reads : Reads pathS zBytes Pa.PathOk := by
 have h := cntS_reads (nS_reads (most := 1048576) (by omega)) (most := 6) (by omega) (by omega)
 refine ⟨fun s h1 h2 => ?_, fun x r hx => ?_, h.less, h.stuck⟩
 · obtain ⟨a, b, c, d⟩ := h.sound s h1 h2
   exact ⟨a, b, by unfold pathS; omega, d⟩
 · exact h.full x r ⟨by have := hx.1; omega, hx.2⟩
theorem rd_many (s : St) : ∀ m, Pa.rd m ([], s.1, s.2) = many (nS 1048576) m s
 | 0 => rfl
 | m + 1 => by
  rw [Pa.rd, rd_many s m, Pa.rdStep_eq]
  rfl
theorem pathS_rd (l : List Nat) : Pa.rdAll l = pathS (l, true) := by
 rw [Pa.rdAll_eq]
 unfold pathS cntS Pa.rdN
 rw [show Pa.rd0 l = ([], (nS 6 (l, true)).2.1, (nS 6 (l, true)).2.2) from rfl, rd_many]
 rfl
theorem pathS_no (l : List Nat) : pathS (l, false) = ([], l, false) := rfl
noncomputable def entS (s : St) : Ent × St := ((cat (tS 80 s).1, (nS 3 (tS 80 s).2).1), (nS 3 (tS 80 s).2).2)
theorem entS_reads : Reads entS entBytes fun e => e.1.length ≤ 80 ∧ 0 ≤ e.2 ∧ e.2 ≤ 3 := by
 refine ((tS_reads (most := 80) (by omega)).and (nS_reads (most := 3) (by omega))).iso (fun x => (cat x.1, x.2)) (fun e => (Tp.bys (str e.1), e.2)) (fun x hx => ?_) (fun x hx => ?_) (fun e he => ?_)
 · unfold entBytes
   rw [txt_eq, cat_bys hx.1.2]
 · exact ⟨by rw [catl_len]; have := hx.1.1; omega, hx.2⟩
 · refine ⟨⟨⟨by rw [bys_len]; omega, Tp.bys_sml _⟩, he.2⟩, ?_, ?_⟩
   · unfold entBytes
     rw [txt_eq]
   · simp only [bys_cat]
noncomputable def labS (s : St) : List Ent × St := cntS 8 entS s
theorem labS_reads : Reads labS labBytes fun l => (l.length : Int) ≤ 8 ∧ ∀ e ∈ l, e.1.length ≤ 80 ∧ 0 ≤ e.2 ∧ e.2 ≤ 3 := cntS_reads entS_reads (by omega) (by omega)
noncomputable def ctS (s : St) : List UInt8 × St := (cat (tS 80 s).1, (tS 80 s).2)
theorem ctS_reads : Reads ctS catBytes fun x => x.length ≤ 80 := by
 refine (tS_reads (most := 80) (by omega)).iso cat (fun x => Tp.bys (str x)) (fun x hx => ?_) (fun x hx => ?_) (fun e he => ?_)
 · unfold catBytes
   rw [txt_eq, cat_bys hx.2]
 · rw [catl_len]; have := hx.1; omega
 · refine ⟨⟨by rw [bys_len]; omega, Tp.bys_sml _⟩, ?_, bys_cat e⟩
   unfold catBytes
   rw [txt_eq]
noncomputable def ownS (s : St) : List (List UInt8) × St := cntS 8 ctS s
theorem ownS_reads : Reads ownS ownBytes fun l => (l.length : Int) ≤ 8 ∧ ∀ x ∈ l, x.length ≤ 80 := cntS_reads ctS_reads (by omega) (by omega)
noncomputable def kidS (s : St) : Kd × St := (((nS 1048576 s).1, (nS 5 (nS 1048576 s).2).1, (nS 1048576 (nS 5 (nS 1048576 s).2).2).1), (nS 1048576 (nS 5 (nS 1048576 s).2).2).2)
theorem kidS_reads : Reads kidS kidBytes fun k => (0 ≤ k.1 ∧ k.1 ≤ 1048576) ∧ (0 ≤ k.2.1 ∧ k.2.1 ≤ 5) ∧ 0 ≤ k.2.2 ∧ k.2.2 ≤ 1048576 :=
 (nS_reads (by omega)).and ((nS_reads (by omega)).and (nS_reads (by omega)))
noncomputable def flagS (s : St) : Bool × St := (decide ((nS 1 s).1 = 1), (nS 1 s).2)
theorem flagS_reads : Reads flagS (fun b => encZ (if b then 1 else 0)) fun _ => True := by
 refine (nS_reads (most := 1) (by omega)).iso (fun z => decide (z = 1)) (fun b => if b then 1 else 0) (fun x hx => ?_) (fun _ _ => trivial) (fun b _ => ?_)
 · by_cases h : x = 1
   · subst h; rfl
   · have : x = 0 := by omega
     subst this; rfl
 · cases b
   · exact ⟨by decide, rfl, rfl⟩
   · exact ⟨by decide, rfl, rfl⟩
noncomputable def mapS (s : St) : Mp × St := (((nS 1048576 s).1, (pathS (nS 1048576 s).2).1, (flagS (pathS (nS 1048576 s).2).2).1), (flagS (pathS (nS 1048576 s).2).2).2)
theorem mapS_reads : Reads mapS mapBytes fun m => (0 ≤ m.1 ∧ m.1 ≤ 1048576) ∧ Pa.PathOk m.2.1 ∧ True :=
 (nS_reads (by omega)).and (pathS_reads.and flagS_reads)
noncomputable def kidsS (s : St) : List Kd × St := cntS 16 kidS s
noncomputable def mapsS (s : St) : List Mp × St := cntS 4 mapS s
theorem kidsS_reads : Reads kidsS (fun l => Tp.enc l.length ++ l.flatMap kidBytes) fun l => (l.length : Int) ≤ 16 ∧ ∀ k ∈ l, (0 ≤ k.1 ∧ k.1 ≤ 1048576) ∧ (0 ≤ k.2.1 ∧ k.2.1 ≤ 5) ∧ 0 ≤ k.2.2 ∧ k.2.2 ≤ 1048576 := cntS_reads kidS_reads (by omega) (by omega)
theorem mapsS_reads : Reads mapsS (fun l => Tp.enc l.length ++ l.flatMap mapBytes) fun l => (l.length : Int) ≤ 4 ∧ ∀ m ∈ l, (0 ≤ m.1 ∧ m.1 ≤ 1048576) ∧ Pa.PathOk m.2.1 ∧ True := cntS_reads mapS_reads (by omega) (by omega)
structure ObS (s : St) where
 kind : Int × St := nS 5 s
 lab : List Ent × St := labS kind.2
 kids : List Kd × St := kidsS lab.2
 next : Int × St := nS 1048577 kids.2
 bytes : List Nat × St := tS 256 next.2
 own : List (List UInt8) × St := ownS bytes.2
 cats : Int × St := nS 65536 own.2
 entry : List Ent × St := labS cats.2
 ring : Int × St := nS 1048576 entry.2
 maps : List Mp × St := mapsS ring.2
noncomputable def obS (s : St) : ObS s := {}
noncomputable def objS (s : St) : Ob × St := (⟨(obS s).kind.1, (obS s).lab.1, (obS s).kids.1, (obS s).next.1, (obS s).bytes.1, (obS s).own.1, (obS s).cats.1, (obS s).entry.1, (obS s).ring.1, (obS s).maps.1⟩, (obS s).maps.2)
structure ReadO (o : Ob) : Prop where
 kind : 0 ≤ o.kind ∧ o.kind ≤ 5
 lab : (o.lab.length : Int) ≤ 8 ∧ ∀ e ∈ o.lab, e.1.length ≤ 80 ∧ 0 ≤ e.2 ∧ e.2 ≤ 3
 kids : (o.kids.length : Int) ≤ 16 ∧ ∀ k ∈ o.kids, (0 ≤ k.1 ∧ k.1 ≤ 1048576) ∧ (0 ≤ k.2.1 ∧ k.2.1 ≤ 5) ∧ 0 ≤ k.2.2 ∧ k.2.2 ≤ 1048576
 next : 0 ≤ o.next ∧ o.next ≤ 1048577
 bytes : (o.bytes.length : Int) ≤ 256 ∧ Tp.Sml o.bytes
 own : (o.own.length : Int) ≤ 8 ∧ ∀ x ∈ o.own, x.length ≤ 80
 cats : 0 ≤ o.cats ∧ o.cats ≤ 65536
 entry : (o.entry.length : Int) ≤ 8 ∧ ∀ e ∈ o.entry, e.1.length ≤ 80 ∧ 0 ≤ e.2 ∧ e.2 ≤ 3
 ring : 0 ≤ o.ring ∧ o.ring ≤ 1048576
 maps : (o.maps.length : Int) ≤ 4 ∧ ∀ m ∈ o.maps, (0 ≤ m.1 ∧ m.1 ≤ 1048576) ∧ Pa.PathOk m.2.1 ∧ True
theorem objS_reads : Reads objS obBytes ReadO := by
 have h := (nS_reads (most := 5) (by omega)).and (labS_reads.and (kidsS_reads.and ((nS_reads (most := 1048577) (by omega)).and ((tS_reads (most := 256) (by omega)).and (ownS_reads.and ((nS_reads (most := 65536) (by omega)).and (labS_reads.and ((nS_reads (most := 1048576) (by omega)).and mapsS_reads))))))))
 exact h.iso (fun x => (⟨x.1, x.2.1, x.2.2.1, x.2.2.2.1, x.2.2.2.2.1, x.2.2.2.2.2.1, x.2.2.2.2.2.2.1, x.2.2.2.2.2.2.2.1, x.2.2.2.2.2.2.2.2.1, x.2.2.2.2.2.2.2.2.2⟩ : Ob))
  (fun o => (o.kind, o.lab, o.kids, o.next, o.bytes, o.own, o.cats, o.entry, o.ring, o.maps)) (fun _ _ => rfl)
  (fun x ⟨a, b, c, d, e, f, g, h, i, j⟩ => ⟨a, b, c, d, e, f, g, h, i, j⟩) (fun o ⟨a, b, c, d, e, f, g, h, i, j⟩ => ⟨⟨a, b, c, d, e, f, g, h, i, j⟩, rfl, rfl⟩)
abbrev itemBytes (x : List Int × Ob) : List Nat := zBytes x.1 ++ obBytes x.2
noncomputable def itemS (s : St) : (List Int × Ob) × St := (((pathS s).1, (objS (pathS s).2).1), (objS (pathS s).2).2)
theorem itemS_reads : Reads itemS itemBytes fun x => Pa.PathOk x.1 ∧ ReadO x.2 := pathS_reads.and objS_reads
noncomputable def itemsS (s : St) : List (List Int × Ob) × St := cntS 65536 itemS s
end Go.Proofs.YtgcbfggoddkhnaaGreatDoor
namespace Go.Proofs.YtgcbfggoddkhnaaGreatDoor
open Pa
abbrev Item := List Int × Ob
abbrev Tab := List Item
def fnd : Tab → List Int → Option Ob
 | [], _ => none
 | x :: r, p => if x.1 = p then some x.2 else fnd r p
def Asc (L : Tab) : Prop := L.Pairwise fun a b => cmpZ a.1 b.1 = -1
theorem cmpZ_irr (z : List Int) : ¬ cmpZ z z = -1 := fun e => by rw [tot_cmpZ.refl] at e; omega
theorem cmpZ_ne {p q : List Int} (h : cmpZ p q = -1) : p ≠ q := fun e => by subst e; exact cmpZ_irr _ h
theorem fnd_mem : ∀ {L : Tab} {p : List Int} {o : Ob}, fnd L p = some o → (p, o) ∈ L
 | [], _, _, h => by cases h
 | x :: r, p, o, h => by
  rw [fnd] at h
  split at h
  · rename_i e; cases h; subst e; simp
  · exact List.mem_cons_of_mem _ (fnd_mem h)
theorem fnd_of : ∀ {L : Tab} {x : Item}, Asc L → x ∈ L → fnd L x.1 = some x.2
 | [], _, _, h => by cases h
 | y :: r, x, hA, h => by
  obtain ⟨h1, h2⟩ := List.pairwise_cons.1 hA
  rw [fnd]
  rcases List.mem_cons.1 h with rfl | h
  · rw [if_pos rfl]
  · rw [if_neg (cmpZ_ne (h1 x h)), fnd_of h2 h]
theorem fnd_none {L : Tab} {p : List Int} : fnd L p = none ↔ ∀ x ∈ L, x.1 ≠ p := by
 induction L with
 | nil => simp [fnd]
 | cons x r ih =>
  rw [fnd]
  split
  · rename_i e
    exact ⟨fun h => (by cases h), fun h => absurd e (h x (by simp))⟩
  · rename_i e
    rw [ih]
    constructor
    · intro h y hy
      rcases List.mem_cons.1 hy with rfl | hy
      · exact e
      · exact h y hy
    · exact fun h y hy => h y (List.mem_cons_of_mem _ hy)
theorem asc_ext : ∀ {L M : Tab}, Asc L → Asc M → (∀ x, x ∈ L ↔ x ∈ M) → L = M
 | [], [], _, _, _ => rfl
 | [], y :: m, _, _, h => absurd ((h y).2 (by simp)) (by simp)
 | x :: l, [], _, _, h => absurd ((h x).1 (by simp)) (by simp)
 | x :: l, y :: m, hl, hm, h => by
  have hl1 := List.pairwise_cons.1 hl
  have hm1 := List.pairwise_cons.1 hm
  have exy : x = y := by
    rcases List.mem_cons.1 ((h x).1 (by simp)) with e | e
    · exact e
    · rcases List.mem_cons.1 ((h y).2 (by simp)) with e2 | e2
      · exact e2.symm
      · exact absurd (tot_cmpZ.lt_trans (hl1.1 y e2) (hm1.1 x e)) (cmpZ_irr _)
  subst exy
  rw [asc_ext hl1.2 hm1.2 fun z => ?_]
  constructor
  · intro hz
    rcases List.mem_cons.1 ((h z).1 (List.mem_cons_of_mem _ hz)) with e | e
    · subst e; exact absurd (hl1.1 z hz) (cmpZ_irr _)
    · exact e
  · intro hz
    rcases List.mem_cons.1 ((h z).2 (List.mem_cons_of_mem _ hz)) with e | e
    · subst e; exact absurd (hm1.1 z hz) (cmpZ_irr _)
    · exact e
theorem asc_fnd {L M : Tab} (hL : Asc L) (hM : Asc M) (h : ∀ p, fnd L p = fnd M p) : L = M :=
 asc_ext hL hM fun x => ⟨fun hx => by
  have := fnd_of hL hx
  rw [h] at this
  exact fnd_mem this, fun hx => by
  have := fnd_of hM hx
  rw [← h] at this
  exact fnd_mem this⟩
def lay : Tab → List Int → Ob → Tab
 | [], p, o => [(p, o)]
 | x :: r, p, o => if cmpZ x.1 p = -1 then x :: lay r p o else if x.1 = p then (p, o) :: r else (p, o) :: x :: r
theorem lay_key : ∀ {L : Tab} {p : List Int} {o : Ob} {x : Item}, x ∈ lay L p o → x = (p, o) ∨ x ∈ L
 | [], p, o, x, h => by simp [lay] at h; exact .inl h
 | y :: r, p, o, x, h => by
  rw [lay] at h
  split at h
  · rcases List.mem_cons.1 h with rfl | h
    · exact .inr (by simp)
    · exact (lay_key h).imp_right (List.mem_cons_of_mem _)
  · split at h
    · rcases List.mem_cons.1 h with rfl | h
      · exact .inl rfl
      · exact .inr (List.mem_cons_of_mem _ h)
    · rcases List.mem_cons.1 h with rfl | h
      · exact .inl rfl
      · exact .inr h
theorem cmpZ_flip {p q : List Int} (h1 : ¬ cmpZ p q = -1) (h2 : p ≠ q) : cmpZ q p = -1 := by
 have h3 := tot_cmpZ.one p q
 have h4 := tot_cmpZ.neg p q
 have h5 : cmpZ p q ≠ 0 := fun e => h2 ((tot_cmpZ.eq p q).1 e)
 omega
theorem lay_asc : ∀ {L : Tab}, Asc L → ∀ (p : List Int) (o : Ob), Asc (lay L p o)
 | [], _, p, o => by simp [lay, Asc]
 | x :: r, hA, p, o => by
  obtain ⟨h1, h2⟩ := List.pairwise_cons.1 hA
  rw [lay]
  split
  · rename_i hx
    refine List.pairwise_cons.2 ⟨fun y hy => ?_, lay_asc h2 p o⟩
    rcases lay_key hy with rfl | hy
    · exact hx
    · exact h1 y hy
  · rename_i hx
    split
    · rename_i e
      subst e
      exact List.pairwise_cons.2 ⟨h1, h2⟩
    · rename_i hne
      have hlt := cmpZ_flip hx hne
      refine List.pairwise_cons.2 ⟨fun y hy => ?_, hA⟩
      rcases List.mem_cons.1 hy with rfl | hy
      · exact hlt
      · exact tot_cmpZ.lt_trans hlt (h1 y hy)
theorem fnd_lay : ∀ {L : Tab}, Asc L → ∀ (p : List Int) (o : Ob) (q : List Int), fnd (lay L p o) q = if q = p then some o else fnd L q
 | [], _, p, o, q => by
  simp only [lay, fnd]
  by_cases h : q = p
  · rw [if_pos h, if_pos h.symm]
  · rw [if_neg h, if_neg fun e => h e.symm]
 | x :: r, hA, p, o, q => by
  obtain ⟨h1, h2⟩ := List.pairwise_cons.1 hA
  rw [lay]
  split
  · rename_i hx
    simp only [fnd, fnd_lay h2 p o q]
    by_cases h : x.1 = q
    · rw [if_pos h, if_pos h, if_neg]
      intro e
      exact cmpZ_ne hx (h.trans e)
    · rw [if_neg h, if_neg h]
  · split
    · rename_i e
      simp only [fnd]
      by_cases h : q = p
      · rw [if_pos h, if_pos h.symm]
      · rw [if_neg h, if_neg (fun e => h e.symm), if_neg]
        intro e2
        exact h (e2.symm.trans e)
    · simp only [fnd]
      by_cases h : q = p
      · rw [if_pos h, if_pos h.symm]
      · rw [if_neg h, if_neg fun e => h e.symm]
theorem lay_mem {L : Tab} (hA : Asc L) {p : List Int} {o : Ob} {x : Item} : x ∈ lay L p o ↔ x = (p, o) ∨ (x ∈ L ∧ x.1 ≠ p) := by
 constructor
 · intro h
   have h1 := fnd_of (lay_asc hA p o) h
   rw [fnd_lay hA] at h1
   split at h1
   · rename_i e
     injection h1 with h1
     exact .inl (Prod.ext e h1.symm)
   · rename_i e
     exact .inr ⟨fnd_mem h1, e⟩
 · intro h
   have h2 : fnd (lay L p o) x.1 = some x.2 := by
     rw [fnd_lay hA]
     rcases h with rfl | ⟨h, hne⟩
     · rw [if_pos rfl]
     · rw [if_neg hne, fnd_of hA h]
   exact fnd_mem h2
theorem lay_len : ∀ (L : Tab) (p : List Int) (o : Ob), (lay L p o).length ≤ L.length + 1
 | [], p, o => by simp [lay]
 | x :: r, p, o => by
  rw [lay]
  split
  · have := lay_len r p o
    simp; omega
  · split <;> simp
def lastZ (p : List Int) : Int := p.getLast?.getD 0
theorem lastZ_snoc (q : List Int) (n : Int) : lastZ (q ++ [n]) = n := by simp [lastZ]
theorem snoc_of {p : List Int} (h : p ≠ []) : p = p.dropLast ++ [lastZ p] := by
 rcases List.eq_nil_or_concat p with e | ⟨q, n, e⟩
 · exact absurd e h
 · rw [List.concat_eq_append] at e
   subst e
   simp [lastZ]
def quotaP (f : List Int → Option Ob) (p : List Int) : Int :=
 if p = [] then 1048576 else match f p.dropLast with
  | none => -1
  | some c => kidQ c.kids (lastZ p)
theorem quotaP_nil (f : List Int → Option Ob) : quotaP f [] = 1048576 := by simp [quotaP]
theorem quotaP_snoc (f : List Int → Option Ob) (q : List Int) (n : Int) : quotaP f (q ++ [n]) = match f q with | none => -1 | some c => kidQ c.kids n := by
 unfold quotaP
 rw [if_neg (by simp), List.dropLast_concat, lastZ_snoc]
def HoldsK (f : List Int → Option Ob) (p : List Int) (l : List Ent) (k : Kd) : Prop := PathOk (p ++ [k.1]) ∧ ∃ c, f (p ++ [k.1]) = some c ∧ c.kind = k.2.1 ∧ FlowsL l c.lab
def HoldsP (f : List Int → Option Ob) (p : List Int) (o : Ob) : Prop := ∀ k ∈ o.kids, HoldsK f p o.lab k
noncomputable instance (f : List Int → Option Ob) (p : List Int) (o : Ob) : Decidable (HoldsP f p o) := Classical.propDecidable _
def labAt (f : List Int → Option Ob) (p : List Int) : List Ent := match f p with
 | none => []
 | some c => c.lab
def FitO (f : List Int → Option Ob) (p : List Int) (o : Ob) : Prop := (p ≠ [] → FlowsL (labAt f p.dropLast) o.lab) ∧ HoldsP f p o
noncomputable instance (f : List Int → Option Ob) (p : List Int) (o : Ob) : Decidable (FitO f p o) := Classical.propDecidable _
structure ValT (L : Tab) : Prop where
 asc : Asc L
 root : ∃ r, fnd L [] = some r ∧ r.kind = 1
 path : ∀ x ∈ L, PathOk x.1
 ob : ∀ x ∈ L, ObOk x.2
 fits : ∀ x ∈ L, uses x.2 ≤ quotaP (fnd L) x.1
 holds : ∀ x ∈ L, HoldsP (fnd L) x.1 x.2
theorem ValT.obAt {L : Tab} (h : ValT L) {p : List Int} {o : Ob} (hp : fnd L p = some o) : ObOk o := h.ob _ (fnd_mem hp)
theorem ValT.pathAt {L : Tab} (h : ValT L) {p : List Int} {o : Ob} (hp : fnd L p = some o) : PathOk p := h.path _ (fnd_mem hp)
theorem ValT.entry {L : Tab} (h : ValT L) {q : List Int} {n : Int} {o : Ob} (hp : fnd L (q ++ [n]) = some o) :
  ∃ c, fnd L q = some c ∧ ∃ k ∈ c.kids, k.1 = n ∧ k.2.1 = o.kind ∧ kidQ c.kids n = k.2.2 ∧ uses o ≤ k.2.2 ∧ FlowsL c.lab o.lab := by
 have h1 := h.fits _ (fnd_mem hp)
 have h2 := (h.obAt hp).uses
 simp only [quotaP_snoc] at h1
 cases hc : fnd L q with
 | none => rw [hc] at h1; simp at h1; omega
 | some c =>
  rw [hc] at h1
  simp only at h1
  rcases kidQ_cases c.kids n with ⟨h3, _⟩ | ⟨k, hk, h3, h4⟩
  · omega
  · obtain ⟨_, d, hd, h6, h7⟩ := h.holds _ (fnd_mem hc) k hk
    simp only [h3] at hd
    rw [hp] at hd
    cases hd
    exact ⟨c, rfl, k, hk, h3, h6.symm, h4, by rw [← h4]; exact h1, h7⟩
theorem ValT.quota {L : Tab} (h : ValT L) {p : List Int} {o : Ob} (hp : fnd L p = some o) : uses o ≤ quotaP (fnd L) p := h.fits _ (fnd_mem hp)
theorem quotaP_le {L : Tab} (h : ValT L) {p : List Int} {o : Ob} (hp : fnd L p = some o) : 16 ≤ quotaP (fnd L) p ∧ quotaP (fnd L) p ≤ 1048576 := by
 have h1 := h.quota hp
 have h2 := (h.obAt hp).uses
 refine ⟨by omega, ?_⟩
 by_cases he : p = []
 · subst he; rw [quotaP_nil]; omega
 · have e := snoc_of he
   rw [e] at hp ⊢
   obtain ⟨c, hc, k, hk, hkn, _, hq, _⟩ := h.entry hp
   rw [quotaP_snoc, hc]
   simp only
   rw [hq]
   exact ((h.obAt hc).kids.2.1 k hk).2.2.2
theorem ValT.kid {L : Tab} (h : ValT L) {q : List Int} {c : Ob} (hc : fnd L q = some c) {k : Kd} (hk : k ∈ c.kids) : ∃ o, fnd L (q ++ [k.1]) = some o ∧ o.kind = k.2.1 ∧ FlowsL c.lab o.lab ∧ uses o ≤ k.2.2 := by
 obtain ⟨_, o, ho, h1, h2⟩ := h.holds _ (fnd_mem hc) k hk
 obtain ⟨c', hc', k', hk', h3, h4, h5, h6, _⟩ := h.entry ho
 simp only at ho
 rw [hc] at hc'
 cases hc'
 rw [kids_uniq (h.obAt hc).kids hk' hk h3] at h6
 exact ⟨o, ho, h1, h2, h6⟩
theorem holdsK_mono {f g : List Int → Option Ob} {p : List Int} {l : List Ent} {k : Kd} (h : HoldsK f p l k) (hg : g (p ++ [k.1]) = f (p ++ [k.1])) : HoldsK g p l k := by
 obtain ⟨h1, c, h2, h3⟩ := h
 exact ⟨h1, c, by rw [hg]; exact h2, h3⟩
theorem labAt_eq {f : List Int → Option Ob} {p : List Int} {c : Ob} (h : f p = some c) : labAt f p = c.lab := by unfold labAt; rw [h]
theorem snoc_ne (p : List Int) (n : Int) : p ++ [n] ≠ p := fun e => by simpa using congrArg List.length e
theorem snoc_inj {p q : List Int} {m n : Int} (h : p ++ [m] = q ++ [n]) : p = q ∧ m = n := by
 have := List.append_inj' h rfl
 exact ⟨this.1, by simpa using this.2⟩
theorem ValT.set {L : Tab} (h : ValT L) {p : List Int} {was o : Ob} (hp : fnd L p = some was) (hk : was.kind = o.kind) (ho : ObOk o) (h1 : was.kids = o.kids) (h2 : FitO (fnd L) p o) (h3 : uses o ≤ quotaP (fnd L) p) : ValT (lay L p o) := by
 have hq : ∀ q, quotaP (fnd (lay L p o)) q = quotaP (fnd L) q := by
   intro q
   unfold quotaP
   split
   · rfl
   · rw [fnd_lay h.asc]
     by_cases e : q.dropLast = p
     · rw [if_pos e, e, hp]
       simp only [h1]
     · rw [if_neg e]
 refine ⟨lay_asc h.asc p o, ?_, ?_, ?_, ?_, ?_⟩
 · obtain ⟨r, hr, h4⟩ := h.root
   rw [fnd_lay h.asc]
   split
   · rename_i e
     rw [e, hp] at hr
     cases hr
     exact ⟨o, rfl, by rw [← hk]; exact h4⟩
   · exact ⟨r, hr, h4⟩
 · intro x hx
   rcases (lay_mem h.asc).1 hx with rfl | ⟨hx, _⟩
   · exact h.pathAt hp
   · exact h.path x hx
 · intro x hx
   rcases (lay_mem h.asc).1 hx with rfl | ⟨hx, _⟩
   · exact ho
   · exact h.ob x hx
 · intro x hx
   rw [hq]
   rcases (lay_mem h.asc).1 hx with rfl | ⟨hx, _⟩
   · exact h3
   · exact h.fits x hx
 · intro x hx k hkx
   rcases (lay_mem h.asc).1 hx with rfl | ⟨hx, hne⟩
   · refine holdsK_mono (h2.2 k hkx) ?_
     rw [fnd_lay h.asc, if_neg (snoc_ne _ _)]
   · have h4 := h.holds x hx k hkx
     by_cases e : x.1 ++ [k.1] = p
     · obtain ⟨h5, c, h6, h7, h8⟩ := h4
       refine ⟨h5, o, by rw [fnd_lay h.asc, if_pos e], ?_, ?_⟩
       · rw [e, hp] at h6
         cases h6
         rw [← hk]; exact h7
       · have h9 := h2.1 (by rw [← e]; simp)
         rw [← e, List.dropLast_concat, labAt_eq (fnd_of h.asc hx)] at h9
         exact h9
     · refine holdsK_mono h4 ?_
       rw [fnd_lay h.asc, if_neg e]
def addK (c : Ob) (kind quota : Int) : Ob := { c with kids := c.kids ++ [(c.next, kind, quota)], next := c.next + 1 }
theorem ValT.fresh {L : Tab} (h : ValT L) {p : List Int} {c : Ob} (hp : fnd L p = some c) : fnd L (p ++ [c.next]) = none := by
 cases hx : fnd L (p ++ [c.next]) with
 | none => rfl
 | some o =>
  obtain ⟨d, hd, k, hk, h1, _⟩ := h.entry hx
  rw [hp] at hd
  cases hd
  have := ((h.obAt hp).kids.2.1 k hk).1.2
  omega
theorem addK_uses (c : Ob) (kind quota : Int) : uses (addK c kind quota) = uses c + quota := by
 unfold uses addK
 simp only [quotas_append, quotas]
 omega
theorem addK_ok {c : Ob} (h : ObOk c) (hk : c.kind = 1) {kind quota : Int} (h1 : 1 ≤ kind ∧ kind ≤ 5) (h2 : 0 ≤ quota ∧ quota ≤ 1048576) (h3 : c.kids.length ≠ 16) (h4 : c.next ≤ 1048576) : ObOk (addK c kind quota) := by
 have hn := h.next
 refine ⟨h.kind, h.lab, ⟨?_, ?_, ?_⟩, ⟨?_, ?_⟩, h.bytes, h.own, h.cats, h.entry, h.ring, h.maps, ⟨.inl hk, h.fields.2⟩⟩
 · have := h.kids.1
   simp only [addK, List.length_append, List.length_singleton]
   omega
 · intro k hk
   simp only [addK] at hk ⊢
   rcases List.mem_append.1 hk with hk | hk
   · have := h.kids.2.1 k hk
     exact ⟨⟨this.1.1, by have := this.1.2; omega⟩, this.2⟩
   · simp at hk
     subst hk
     exact ⟨⟨hn.1, by simp; omega⟩, h1, h2⟩
 · simp only [addK]
   rw [List.pairwise_append]
   refine ⟨h.kids.2.2, List.pairwise_singleton _ _, fun a ha b hb => ?_⟩
   simp at hb
   subst hb
   exact (h.kids.2.1 a ha).1.2
 · simp only [addK]; omega
 · simp only [addK]; omega
theorem kidQ_app (l : List Kd) (k : Kd) (n : Int) : kidQ (l ++ [k]) n = if (∃ x ∈ l, x.1 = n) then kidQ l n else if k.1 = n then k.2.2 else -1 := by
 induction l with
 | nil => simp [kidQ]
 | cons x r ih =>
  rw [List.cons_append, kidQ, kidQ, ih]
  by_cases hx : x.1 = n
  · rw [if_pos hx, if_pos hx, if_pos ⟨x, by simp, hx⟩]
  · rw [if_neg hx, if_neg hx]
    by_cases hr : ∃ y ∈ r, y.1 = n
    · obtain ⟨y, hy, e⟩ := hr
      rw [if_pos ⟨y, hy, e⟩, if_pos ⟨y, List.mem_cons_of_mem _ hy, e⟩]
    · rw [if_neg hr, if_neg (c := ∃ y ∈ x :: r, y.1 = n)]
      rintro ⟨y, hy, e⟩
      rcases List.mem_cons.1 hy with rfl | hy
      · exact hx e
      · exact hr ⟨y, hy, e⟩
theorem ValT.add {L : Tab} (h : ValT L) {p : List Int} {c o : Ob} {quota : Int} (hp : fnd L p = some c) (hk : c.kind = 1) (ho : ObOk o) (hk0 : o.kids = []) (hq : 0 ≤ quota ∧ quota ≤ 1048576) (hf : FlowsL c.lab o.lab)
   (h6 : p.length ≠ 6) (h16 : c.kids.length ≠ 16) (hn : c.next ≤ 1048576) (hu : uses o ≤ quota) (hb : uses c + quota ≤ quotaP (fnd L) p) : ValT (lay (lay L p (addK c o.kind quota)) (p ++ [c.next]) o) := by
 have hfr := h.fresh hp
 have hA1 := lay_asc h.asc p (addK c o.kind quota)
 have hpath := h.pathAt hp
 have hpk : PathOk (p ++ [c.next]) := by
   have := (h.obAt hp).next
   refine ⟨by have := hpath.1; simp; omega, fun z hz => ?_⟩
   rcases List.mem_append.1 hz with hz | hz
   · exact hpath.2 z hz
   · simp at hz; subst hz; omega
 have F : ∀ q, fnd (lay (lay L p (addK c o.kind quota)) (p ++ [c.next]) o) q = if q = p ++ [c.next] then some o else if q = p then some (addK c o.kind quota) else fnd L q := fun q => by
   rw [fnd_lay hA1, fnd_lay h.asc]
 have Q : ∀ q x, fnd L q = some x → quotaP (fnd (lay (lay L p (addK c o.kind quota)) (p ++ [c.next]) o)) q = quotaP (fnd L) q := by
   intro q x hx
   by_cases he : q = []
   · subst he; rw [quotaP_nil, quotaP_nil]
   · have e := snoc_of he
     rw [e] at hx ⊢
     obtain ⟨d, hd, k, hkd, hkn, _⟩ := h.entry hx
     rw [quotaP_snoc, quotaP_snoc, F, hd]
     have hne : q.dropLast ≠ p ++ [c.next] := fun e2 => by rw [e2, hfr] at hd; cases hd
     rw [if_neg hne]
     by_cases e2 : q.dropLast = p
     · rw [if_pos e2]
       rw [e2, hp] at hd
       cases hd
       simp only [addK]
       rw [kidQ_app, if_pos ⟨k, hkd, hkn⟩]
     · rw [if_neg e2]
 refine ⟨lay_asc hA1 _ _, ?_, ?_, ?_, ?_, ?_⟩
 · obtain ⟨r, hr, h4⟩ := h.root
   rw [F, if_neg (by simp)]
   by_cases e : [] = p
   · rw [if_pos e]
     exact ⟨_, rfl, hk⟩
   · rw [if_neg e]
     exact ⟨r, hr, h4⟩
 · intro x hx
   rcases (lay_mem hA1).1 hx with rfl | ⟨hx, _⟩
   · exact hpk
   · rcases (lay_mem h.asc).1 hx with rfl | ⟨hx, _⟩
     · exact hpath
     · exact h.path x hx
 · intro x hx
   rcases (lay_mem hA1).1 hx with rfl | ⟨hx, _⟩
   · exact ho
   · rcases (lay_mem h.asc).1 hx with rfl | ⟨hx, _⟩
     · exact addK_ok (h.obAt hp) hk ho.kind hq h16 hn
     · exact h.ob x hx
 · intro x hx
   rcases (lay_mem hA1).1 hx with rfl | ⟨hx, _⟩
   · simp only
     rw [quotaP_snoc, F, if_neg (fun e => snoc_ne _ _ e.symm), if_pos rfl]
     simp only [addK]
     rw [kidQ_app, if_neg, if_pos rfl]
     · exact hu
     · rintro ⟨k, hk1, hk2⟩
       have := ((h.obAt hp).kids.2.1 k hk1).1.2
       omega
   · rcases (lay_mem h.asc).1 hx with rfl | ⟨hx, _⟩
     · simp only
       rw [Q p c hp, addK_uses]
       exact hb
     · rw [Q _ _ (fnd_of h.asc hx)]
       exact h.fits x hx
 · intro x hx k hkx
   rcases (lay_mem hA1).1 hx with rfl | ⟨hx, _⟩
   · simp only [hk0] at hkx
     cases hkx
   · rcases (lay_mem h.asc).1 hx with rfl | ⟨hx, _⟩
     · simp only [addK] at hkx ⊢
       rcases List.mem_append.1 hkx with hkx | hkx
       · refine holdsK_mono (h.holds _ (fnd_mem hp) k hkx) ?_
         have hne : k.1 ≠ c.next := fun e => by have := ((h.obAt hp).kids.2.1 k hkx).1.2; omega
         rw [show fnd (lay (lay L p { c with kids := c.kids ++ [(c.next, o.kind, quota)], next := c.next + 1 }) (p ++ [c.next]) o) (p ++ [k.1]) = _ from F (p ++ [k.1]), if_neg (fun e => hne (snoc_inj e).2), if_neg (snoc_ne _ _)]
       · simp at hkx
         subst hkx
         exact ⟨hpk, o, (F _).trans (if_pos rfl), rfl, hf⟩
     · refine (fun h4 : HoldsK (fnd L) x.1 x.2.lab k => ?_) (h.holds x hx k hkx)
       obtain ⟨h5, d, h7, h8, h9⟩ := h4
       have hne : x.1 ++ [k.1] ≠ p ++ [c.next] := fun e => by rw [e, hfr] at h7; cases h7
       by_cases e : x.1 ++ [k.1] = p
       · rw [e, hp] at h7
         cases h7
         refine ⟨h5, addK c o.kind quota, (F _).trans ?_, h8, h9⟩
         rw [if_neg hne, if_pos e]
       · refine ⟨h5, d, (F _).trans ?_, h8, h9⟩
         rw [if_neg hne, if_neg e]
         exact h7
def allotK (c : Ob) (n quota : Int) : Ob := { c with kids := setQ c.kids n quota }
def dropKid (c : Ob) (n : Int) : Ob := { c with kids := dropK c.kids n }
def cut (L : Tab) (p : List Int) : Tab := L.filter fun x => !(decide (p <+: x.1))
theorem cut_asc {L : Tab} (h : Asc L) (p : List Int) : Asc (cut L p) := h.filter _
theorem fnd_cut {L : Tab} (h : Asc L) (p q : List Int) : fnd (cut L p) q = if p <+: q then none else fnd L q := by
 by_cases hq : p <+: q
 · rw [if_pos hq, fnd_none]
   intro x hx e
   have := (List.mem_filter.1 hx).2
   simp at this
   exact this (by rw [e]; exact hq)
 · rw [if_neg hq]
   cases hf : fnd L q with
   | none =>
    rw [fnd_none] at hf ⊢
    exact fun x hx => hf x (List.mem_filter.1 hx).1
   | some o =>
    exact fnd_of (x := (q, o)) (cut_asc h p) (List.mem_filter.2 ⟨fnd_mem hf, by simpa using hq⟩)
theorem kidQ_drop (l : List Kd) {n m : Int} (h : m ≠ n) : kidQ (dropK l n) m = kidQ l m := by
 induction l with
 | nil => rfl
 | cons k r ih =>
  unfold dropK at ih ⊢
  rw [List.filter_cons]
  by_cases hk : k.1 = n
  · rw [if_neg (by simpa using hk), ih, kidQ, if_neg]
    exact fun e => h (e.symm.trans hk)
  · rw [if_pos (by simpa using hk), kidQ, kidQ, ih]
theorem quotas_drop {x : Int} {l : List Kd} (h : ∀ k ∈ l, KidOk x k) (n : Int) : quotas (dropK l n) ≤ quotas l := by
 induction l with
 | nil => simp [dropK, quotas]
 | cons k r ih =>
  have h1 := ih fun y hy => h y (List.mem_cons_of_mem _ hy)
  have h2 := (h k (by simp)).2.2
  unfold dropK at h1 ⊢
  rw [List.filter_cons]
  split
  · simp only [quotas]; omega
  · simp only [quotas]; omega
theorem prefix_snoc_iff {p q : List Int} {n : Int} : p <+: q ++ [n] ↔ p <+: q ∨ p = q ++ [n] := by
 constructor
 · rintro ⟨r, hr⟩
   rcases List.eq_nil_or_concat r with e | ⟨s, m, e⟩
   · subst e
     exact .inr (by simpa using hr)
   · rw [List.concat_eq_append] at e
     subst e
     rw [← List.append_assoc] at hr
     exact .inl ⟨s, (snoc_inj hr).1⟩
 · rintro (⟨r, hr⟩ | h)
   · exact ⟨r ++ [n], by rw [← List.append_assoc, hr]⟩
   · rw [h]; exact List.prefix_rfl
theorem ValT.remove {L : Tab} (h : ValT L) {q : List Int} {n : Int} {c : Ob} (hc : fnd L q = some c) : ValT (cut (lay L q (dropKid c n)) (q ++ [n])) := by
 have hA := lay_asc h.asc q (dropKid c n)
 have hno : ¬ (q ++ [n] <+: q) := fun e => by have := e.length_le; simp at this; omega
 have F : ∀ p, fnd (cut (lay L q (dropKid c n)) (q ++ [n])) p = if q ++ [n] <+: p then none else if p = q then some (dropKid c n) else fnd L p := fun p => by
   rw [fnd_cut hA, fnd_lay h.asc]
 have hck := h.obAt hc
 have hok : ObOk (dropKid c n) := by
   refine ⟨hck.kind, hck.lab, dropK_ok hck.kids n, hck.next, hck.bytes, hck.own, hck.cats, hck.entry, hck.ring, hck.maps, ⟨?_, hck.fields.2⟩⟩
   refine hck.fields.1.imp_right fun h1 => ⟨?_, h1.2⟩
   have := List.length_filter_le (fun k : Kd => !(decide (k.1 = n))) c.kids
   have h2 := h1.1
   simp only [dropKid, dropK]
   omega
 have hus : uses (dropKid c n) ≤ uses c := by
   have := quotas_drop hck.kids.2.1 n
   unfold uses dropKid
   simp only
   omega
 have M : ∀ x, x ∈ cut (lay L q (dropKid c n)) (q ++ [n]) → ¬ (q ++ [n] <+: x.1) ∧ (x = (q, dropKid c n) ∨ (x ∈ L ∧ x.1 ≠ q)) := fun x hx => by
   obtain ⟨h1, h2⟩ := List.mem_filter.1 hx
   exact ⟨by simpa using h2, (lay_mem h.asc).1 h1⟩
 have Q : ∀ p x, fnd L p = some x → ¬ (q ++ [n] <+: p) → quotaP (fnd (cut (lay L q (dropKid c n)) (q ++ [n]))) p = quotaP (fnd L) p := by
   intro p x hx hp
   by_cases he : p = []
   · subst he; rw [quotaP_nil, quotaP_nil]
   · have e := snoc_of he
     rw [e] at hx hp ⊢
     obtain ⟨d, hd, k, hkd, hkn, _⟩ := h.entry hx
     rw [prefix_snoc_iff, not_or] at hp
     rw [quotaP_snoc, quotaP_snoc, F, if_neg hp.1, hd]
     by_cases e2 : p.dropLast = q
     · rw [if_pos e2]
       rw [e2, hc] at hd
       cases hd
       simp only [dropKid]
       refine kidQ_drop _ fun e3 => hp.2 ?_
       rw [e2, e3]
     · rw [if_neg e2]
 have H : ∀ p x k, fnd L p = some x → k ∈ x.kids → ¬ (q ++ [n] <+: p ++ [k.1]) → HoldsK (fnd (cut (lay L q (dropKid c n)) (q ++ [n]))) p x.lab k := by
   intro p x k hx hk hno
   obtain ⟨h5, d, h7, h8, h9⟩ := h.holds _ (fnd_mem hx) k hk
   refine ⟨h5, ?_⟩
   simp only at h7
   by_cases e : p ++ [k.1] = q
   · rw [e, hc] at h7
     cases h7
     exact ⟨dropKid c n, by rw [F, if_neg hno, if_pos e], h8, h9⟩
   · exact ⟨d, by rw [F, if_neg hno, if_neg e]; exact h7, h8, h9⟩
 refine ⟨cut_asc hA _, ?_, ?_, ?_, ?_, ?_⟩
 · obtain ⟨r, hr, h4⟩ := h.root
   rw [F, if_neg (by simp)]
   split
   · rename_i e
     rw [e, hc] at hr
     cases hr
     exact ⟨_, rfl, h4⟩
   · exact ⟨r, hr, h4⟩
 · intro x hx
   rcases (M x hx).2 with rfl | ⟨hx, _⟩
   · exact h.pathAt hc
   · exact h.path x hx
 · intro x hx
   rcases (M x hx).2 with rfl | ⟨hx, _⟩
   · exact hok
   · exact h.ob x hx
 · intro x hx
   obtain ⟨hnp, hx⟩ := M x hx
   rcases hx with rfl | ⟨hx, _⟩
   · simp only
     rw [Q q c hc hno]
     have := h.quota hc
     omega
   · rw [Q _ _ (fnd_of h.asc hx) hnp]
     exact h.fits x hx
 · intro x hx k hkx
   obtain ⟨hnp, hx⟩ := M x hx
   rcases hx with rfl | ⟨hx, hne⟩
   · simp only [dropKid] at hkx ⊢
     obtain ⟨h1, h2⟩ := dropK_mem.1 hkx
     refine H q c k hc h1 ?_
     rw [prefix_snoc_iff, not_or]
     exact ⟨hno, fun e => h2 (snoc_inj e).2.symm⟩
   · refine H x.1 x.2 k (fnd_of h.asc hx) hkx ?_
     rw [prefix_snoc_iff, not_or]
     exact ⟨hnp, fun e => hne (snoc_inj e).1.symm⟩
end Go.Proofs.YtgcbfggoddkhnaaGreatDoor
namespace Go.Proofs.YtgcbfggoddkhnaaGreatDoor
open Go.RowKit
def ob0 : Ob := ⟨0, [], [], 0, [], [], 0, [], 0, []⟩
theorem ob0_at (w : World) (F : Nat → Prop) : ObjAt w F zeroO ob0 :=
 ⟨_, ⟨_, _, _, _, _, rfl, SlV.nil _ _, SlV.nil _ _, SlV.nil _ _, SlV.nil _ _, MapsV.nil _ _⟩, SlV.nil _ _⟩
theorem wide_zero : W64 0 := ⟨by omega, by omega⟩
theorem ob0_wide : WideO ob0 := ⟨wide_zero, wide_zero, wide_zero, wide_zero, ⟨by simp [ob0], by simp [ob0]⟩, ⟨by simp [ob0], by simp [ob0]⟩, ⟨by simp [ob0], fun c h => by simp [ob0] at h⟩, ⟨by simp [ob0], by simp [ob0]⟩, ⟨by simp [ob0], by simp [ob0]⟩, ⟨by simp [ob0], by simp [ob0]⟩⟩
def atT (T : TT) (s : List UInt8) : Ob := (T s).getD ob0
def GivR (w : World) (t n : Nat) (T : TT) : Prop := ∃ b V, w.cell? ⟨t, 0, none⟩ = some (.map (some b)) ∧ MapV w b n T V ∧ ∀ s o, T s = some o → WideO o ∧ ObjAt w No (V s) o
theorem GivR.on {w w' : World} {t n : Nat} {T : TT} (h : GivR w t n T) (hb : Below w.heap.size w w') : GivR w' t n T := by
 obtain ⟨b, V, h1, h2, h3⟩ := h
 exact ⟨b, V, (hb.cell (p := ⟨t, 0, none⟩) (World.block_lt_of_cell? w _ h1)).trans h1, h2.on hb, fun s o ho => ⟨(h3 s o ho).1, (h3 s o ho).2.read hb⟩⟩
def RetFind (w : World) (T : TT) (s : List UInt8) (e : Ending) (w' : World) : Prop :=
 Below w.heap.size w w' ∧ ∃ v, e = .returned (.tuple #[v, .bool (T s).isSome]) ∧ ObjAt w' No v (atT T s) ∧ WideO (atT T s)
theorem find_read {w : World} {t n : Nat} {T : TT} {A : Option Addr} {c : Nat} {p : List Int} (he : Env w) (ht : GivR w t n T) (hp : Pa.PL w A c p) (hn : p.length ≤ 10000000) :
  Calls Tryz.prog 75 #[.pointer (some ⟨t, 0, none⟩), .slice A p.length c] w (RetFind w T (Pa.zText p)) := by
 obtain ⟨b, V, h1, h2, h3⟩ := ht
 have ho : ObjAt w No (lookV T V (Pa.zText p)) (atT T (Pa.zText p)) ∧ WideO (atT T (Pa.zText p)) := by
  unfold lookV atT
  cases hT : T (Pa.zText p) with
  | none => exact ⟨ob0_at _ _, ob0_wide⟩
  | some o => exact ⟨(h3 _ o hT).2, (h3 _ o hT).1⟩
 refine (find_any he h1 h2 hp hn ho.1.shape).mono ?_
 rintro e w' ⟨rfl, hb⟩
 exact ⟨hb, _, rfl, ho.1.read hb, ho.2⟩
set_option maxRecDepth 100000 in
theorem place1_any {w : World} {g : Nat} {n : Int} (k : Kd) (hc : w.cell? ⟨g, 0, none⟩ = some (.int .i64 n)) :
   Calls Tryz.prog 119 #[.agg #[.int .i64 k.1, .int .i64 k.2.1, .int .i64 k.2.2], .pointer (some ⟨g, 0, none⟩)] w (RetB w (.bool (decide (k.1 = n)))) := by
 have hne := World.new_ne w ⟨g, 0, none⟩ hc
 have hc2 := fun O => (((Below.refl w.heap.size w).alloc (Nat.le_refl _) O).cell (p := ⟨g, 0, none⟩) (World.block_lt_of_cell? w _ hc)).trans hc
 have hal : Hid (∀ O, Below w.heap.size w (w.alloc O)) := fun O => (Below.refl _ _).alloc (Nat.le_refl _) _
 by_cases h : k.1 = n
 · rw [decide_eq_true h]
   have hq : (k.1 == n) = true := by simpa using h
   clear h
   go_enter Tryz.func119, Tryz.ntmps119
   go_wp2_with fail
   go_ret
   exact ⟨rfl, hal.out _⟩
 · rw [decide_eq_false h]
   have hq : (k.1 == n) = false := by simpa using h
   clear h
   go_enter Tryz.func119, Tryz.ntmps119
   go_wp2_with fail
   go_ret
   exact ⟨rfl, hal.out _⟩
def IxOut (l : List Kd) (n z : Int) : Prop := (z = -1 ∧ ∀ k ∈ l, k.1 ≠ n) ∨ ∃ (m : Nat) (k : Kd), z = (m : Int) ∧ l[m]? = some k ∧ k.1 = n ∧ ∀ x ∈ l.take m, x.1 ≠ n
def IfRel (w : World) (l : List Kd) (n : Int) (k : Nat) (i : Value) (wr : World) : Prop := ∃ m, m + k = l.length ∧ i = .int .i64 (m : Int) ∧ (∀ x ∈ l.take m, x.1 ≠ n) ∧ Below w.heap.size w wr
set_option maxRecDepth 100000 in
set_option maxHeartbeats 1000000 in
theorem indexFunc_any {w : World} {F : Nat → Prop} {v : Value} {l : List Kd} {g : Nat} {n : Int} (hl : SlV w F v l.length (kidCells l)) (hn : l.length ≤ 1048576) (hc : w.cell? ⟨g, 0, none⟩ = some (.int .i64 n)) :
  Calls Tryz.prog 118 #[v, .func (.func 119) #[] #[.pointer (some ⟨g, 0, none⟩)]] w fun e w' => Below w.heap.size w w' ∧ ∃ z, e = .returned (.int .i64 z) ∧ IxOut l n z := by
 obtain ⟨A, c, rfl, -, -, hs⟩ := hl
 have HS := Lib.hid hs
 have HC := Lib.hid hc
 have hg := World.block_lt_of_cell? w _ hc
 clear hs hc
 go_enter Tryz.func118, Tryz.ntmps118
 go_wp2_with fail
 go_loopg [8] l.length (fun k i wr => IfRel w l n k i wr)
 case atStart => exact ⟨0, by simp, rfl, by simp, Below.refl _ _⟩
 case round =>
  obtain ⟨m, hmk, hi, hno, hb⟩ := hrel
  subst hi
  have HNO := Lib.hid hno
  have HB := Lib.hid hb
  cases gk with
  | zero =>
   have hge : l.length ≤ m := by omega
   have HD : Hid (IxOut l n (-1)) := .inl ⟨rfl, fun k hk => HNO.out k (by rw [List.take_of_length_le hge]; exact hk)⟩
   clear hno hb
   go_wp2_with fail
   go_ret
   exact ⟨HB.out, _, rfl, HD.out⟩
  | succ j =>
   have hm : m < l.length := by omega
   obtain ⟨x, hx⟩ : ∃ x, l[m]? = some x := ⟨_, List.getElem?_eq_getElem hm⟩
   obtain ⟨e1, e2, e3⟩ := kidCells_at hx
   obtain ⟨b, of, rfl, -, hltb, hcc⟩ := HS.out (by rw [kidCells_length]; omega)
   have d1 := (hb.cell (p := ⟨b, of + m * 3, none⟩) hltb).trans (hcc _ _ e1)
   have d2 := (hb.cell (p := ⟨b, of + (m * 3 + 1), none⟩) hltb).trans (hcc _ _ e2)
   have d3 := (hb.cell (p := ⟨b, of + (m * 3 + 2), none⟩) hltb).trans (hcc _ _ e3)
   rw [← Nat.add_assoc] at d2 d3
   have H119 := Lib.hid (place1_any (n := n) x ((hb.cell (p := ⟨g, 0, none⟩) hg).trans HC.out))
   have HMK := Lib.hid hmk
   have HX := Lib.hid hx
   clear hno hb hx e1 e2 e3 hcc hmk
   by_cases he : x.1 = n
   · rw [decide_eq_true he] at H119
     have HD : Hid (IxOut l n (m : Int)) := .inr ⟨m, x, rfl, HX.out, he, HNO.out⟩
     clear he
     go_wp2_with fail
     refine H119.out.mono ?_
     rintro e w1 ⟨rfl, hb1⟩
     go_wp2_with fail
     go_ret
     exact ⟨HB.out.trans (hb1.mono HB.out.size), _, rfl, HD.out⟩
   · rw [decide_eq_false he] at H119
     have HN2 : Hid (∀ y ∈ l.take (m + 1), y.1 ≠ n) := fun y hy => by
      rcases (take_mem' HX.out).1 hy with hy | rfl
      · exact HNO.out y hy
      · exact he
     clear he
     go_wp2_with fail
     refine H119.out.mono ?_
     rintro e w1 ⟨rfl, hb1⟩
     have B1 := Lib.hid (HB.out.trans (hb1.mono HB.out.size))
     clear hb1
     go_wp2_with fail
     go_roundg j
     case measure => omega
     case rel => exact ⟨m + 1, by have := HMK.out; omega, by go_num, HN2.out, B1.out⟩
set_option maxRecDepth 100000 in
theorem place_any {w : World} {F : Nat → Prop} {v : Value} {o : Ob} {n : Int} (h : ObjAt w F v o) (hw : WideO o) :
  Calls Tryz.prog 81 #[v, .int .i64 n] w fun e w' => Below w.heap.size w w' ∧ ∃ z, e = .returned (.int .i64 z) ∧ IxOut o.kids n z := by
 obtain ⟨vk, ⟨vl, vb, vo, ve, vm, rfl, -, -, -, -, -⟩, hk⟩ := h
 have hn := hw.kids.1
 obtain ⟨W0, hW0⟩ : ∃ W0, W0 = (w.alloc (.cells #[.int .i64 o.kind, vl, vk, .int .i64 o.next, vb, vo, .int .i64 o.cats, ve, .int .i64 o.ring, vm] 29)).alloc (.cells #[.int .i64 n] 3) := ⟨_, rfl⟩
 have hb0 : Below w.heap.size w W0 := by rw [hW0]; exact ((Below.refl _ _).alloc (Nat.le_refl _) _).alloc (by simp) _
 have HB0 := Lib.hid hb0
 have H118 := Lib.hid (indexFunc_any (n := n) (g := w.heap.size + 1) (hk.on (F' := No) hb0 fun _ _ h => h.elim) hn (by rw [hW0]; simp))
 rw [hW0] at H118
 clear hk hw hb0
 go_enter Tryz.func81, Tryz.ntmps81
 go_wp2_with (first | (go_at_call 118; refine H118.out.mono ?_; rintro e w1 ⟨hb1, z, rfl, hz⟩; have B1 := Lib.hid hb1; have Z1 := Lib.hid hz; clear hb1 hz))
 go_ret
 exact ⟨HB0.out.trans ((show Below W0.heap.size W0 w1 by rw [hW0]; exact B1.out).mono HB0.out.size), _, rfl, Z1.out⟩
end Go.Proofs.YtgcbfggoddkhnaaGreatDoor
namespace Go.Proofs.YtgcbfggoddkhnaaGreatDoor
open Go.RowKit
end Go.Proofs.YtgcbfggoddkhnaaGreatDoor
