/- Lemmas for the law: Zl, Zu, Zv. -/
import Derived.Test.YtgcbfggoddkhnaaGreatDoorM07
import Derived.Test.YtgcbfggoddkhnaaGreatDoorM11
import Derived.Test.YtgcbfggoddkhnaaGreatDoorM16
import Derived.Test.YtgcbfggoddkhnaaGreatDoorM09
import Derived.Lib.ConvBytes
import Derived.ChangeKeysEq
import Derived.Laws.StructEq
namespace Go.Proofs.YtgcbfggoddkhnaaGreatDoor
open Go.RowKit
open Pa (encZ zBytes)
def PenF (w : World) (F : Nat → Prop) (g : Nat) (l : List Nat) : Prop := ∃ k, Tp.PenAt w g k l ∧ F g ∧ (∀ j, k = some j → F j) ∧ ∀ b, F b → b < w.heap.size
theorem PenF.on {w w' : World} {F : Nat → Prop} {g : Nat} {l : List Nat} (h : PenF w F g l) (hb : Below w.heap.size w w') : PenF w' F g l := by
  obtain ⟨k, h1, h2, h3, h4⟩ := h
  exact ⟨k, h1.kp (Tp.Kp.of_below hb fun _ => False) (fun h => h) (fun _ _ h => h), h2, h3, fun b hb' => Nat.lt_of_lt_of_le (h4 b hb') hb.size⟩
def StepF (w : World) (F : Nat → Prop) (g : Nat) (l : List Nat) (w' : World) : Prop := ∃ F', PenF w' F' g l ∧ Stp w F w' F'
theorem StepF.refl {w w' : World} {F : Nat → Prop} {g : Nat} {l : List Nat} (h : PenF w F g l) (hb : Below w.heap.size w w') : StepF w F g l w' := ⟨F, h.on hb, Stp.of_below hb⟩
theorem StepF.of_wrote {w w' : World} {F : Nat → Prop} {g : Nat} {k : Option Nat} {l : List Nat} (h1 : F g) (h2 : ∀ j, k = some j → F j) (h3 : ∀ b, F b → b < w.heap.size) (h : Tp.Wrote w g k l w') : StepF w F g l w' := by
  obtain ⟨k', h4, h5, h6⟩ := h
  refine ⟨fun b => F b ∨ (w.heap.size ≤ b ∧ b < w'.heap.size), ⟨k', h4, .inl h1, fun j hj => ?_, fun b hb => ?_⟩, h6.more fun i _ hi => ?_, fun b hb => hb.imp id fun h => h.1⟩
  · rcases h5 with h5 | ⟨i, h5, hi⟩
    · exact .inl (h2 j (h5.symm.trans hj))
    · have := h4.row_lt j hj
      rw [h5] at hj
      injection hj with hj
      exact .inr ⟨by omega, this⟩
  · rcases hb with hb | hb
    · exact Nat.lt_of_lt_of_le (h3 b hb) h6.size
    · exact hb.2
  · rcases hi with rfl | hi
    · exact h1
    · exact h2 i hi
theorem PenF.then {w w1 w2 : World} {F F1 : Nat → Prop} {g : Nat} {l : List Nat} (h1 : Stp w F w1 F1) (h2 : StepF w1 F1 g l w2) : StepF w F g l w2 := by
  obtain ⟨F2, h3, h4⟩ := h2
  exact ⟨F2, h3, h1.trans h4⟩
theorem SlV.stp {w w' : World} {F F' : Nat → Prop} {v : Value} {n : Nat} {cs : List Value} (h : SlV w F v n cs) (hs : Stp w F w' F') : SlV w' F' v n cs :=
  h.kp hs.1 (fun _ _ h => h) fun b hb h => (hs.2 b h).resolve_right (by omega)
theorem Sl.stp {w w' : World} {F F' : Nat → Prop} {A : Option Addr} {cs : List Value} (h : Sl w F A cs) (hs : Stp w F w' F') : Sl w' F' A cs :=
  h.kp hs.1 (fun _ _ h => h) fun b hb h => (hs.2 b h).resolve_right (by omega)
theorem MapsV.stp {w w' : World} {F F' : Nat → Prop} {v : Value} {ms : List Mp} (h : MapsV w F v ms) (hs : Stp w F w' F') : MapsV w' F' v ms :=
  h.kp hs.1 (fun _ _ h => h) fun b hb h => (hs.2 b h).resolve_right (by omega)
theorem penF_num {w : World} {F : Nat → Prop} {g : Nat} {l : List Nat} {z : Int} (hp : PenF w F g l) (hl : l.length ≤ 80000000) :
    Calls Tryz.prog 51 #[.pointer (some ⟨g, 0, none⟩), .int .i64 z] w fun e w' => (∃ b, e = .returned (.bool b)) ∧ StepF w F g (l ++ encZ z) w' := by
  obtain ⟨k, h1, h2, h3, h4⟩ := hp
  by_cases hz : 0 ≤ z ∧ z ≤ 4611686018427387903
  · have e : encZ z = Tp.enc z.toNat := by unfold encZ; rw [if_pos hz]
    have ez : z = ((z.toNat : Nat) : Int) := by omega
    rw [e]
    have h := Tp.pen_number (n := z.toNat) h1 (by omega) (by omega)
    rw [← ez] at h
    refine h.mono ?_
    rintro e w' ⟨rfl, hw⟩
    exact ⟨⟨_, rfl⟩, StepF.of_wrote h2 h3 h4 hw⟩
  · have e : encZ z = [] := by unfold encZ; rw [if_neg hz]
    rw [e, List.append_nil]
    refine (Tp.pen_refuse w g (n := z) (by omega)).mono ?_
    rintro e w' ⟨rfl, rfl⟩
    exact ⟨⟨_, rfl⟩, StepF.refl ⟨k, h1, h2, h3, h4⟩ (Below.refl _ _)⟩
end Go.Proofs.YtgcbfggoddkhnaaGreatDoor
namespace Go.Proofs.YtgcbfggoddkhnaaGreatDoor.Tp
open Go.RowKit
set_option maxRecDepth 100000 in
theorem pen_text2 {w : World} {g : Nat} {k : Option Nat} {l : List Nat} (hp : PenAt w g k l) (hn : l.length ≤ 80000000) (s : ByteArray) (hs : s.size ≤ 10000000) :
    Calls Tryz.prog 53 #[.pointer (some ⟨g, 0, none⟩), .string s] w fun e w' => e = .returned (.tuple #[]) ∧ Wrote w g k (l ++ txt s) w' := by
  have H := Lib.hid (pen_number (n := s.size) hp (by omega) (by omega))
  have HE : Hid ((enc s.size).length ≤ 9) := enc_nine (by omega)
  have hg := hp.lt
  clear hp
  go_enter Tryz.func53, Tryz.ntmps53
  go_wp2_with fail
  refine H.out.mono ?_
  rintro e w1 ⟨rfl, ⟨k0, ⟨v, hc, hf, rfl, ho, hne⟩, hk0, hkp⟩⟩
  have HO := Lib.hid ho
  have HK := Lib.hid hk0
  clear ho hk0
  go_wp2_with (at_builtin; refine wpList_append_str rfl _ _ rfl v (l ++ enc s.size) s rfl HO.out rfl (by have := HE.out; simp; omega) ?_)
  intro v' w2 h1 h2 h3
  have hc1 := h2.cell hc hne
  have hf1 := (h2.frozen hne (World.block_lt_of_cell? _ _ hc)).trans hf
  have HW := Lib.hid (Wrote.step HK.out hkp hg hne hf1 hc1 h1 h2 h3)
  obtain ⟨A', n', c', rfl⟩ := h1.slice
  clear h1 h2 h3 hkp hc hf HO HK hne
  go_wp2_with fail
  go_end0
  exact ⟨rfl, HW.out⟩
end Go.Proofs.YtgcbfggoddkhnaaGreatDoor.Tp
namespace Go.Proofs.YtgcbfggoddkhnaaGreatDoor
open Go.RowKit
open Pa (encZ zBytes)
theorem penF_txt {w : World} {F : Nat → Prop} {g : Nat} {l : List Nat} {s : ByteArray} (hp : PenF w F g l) (hl : l.length ≤ 80000000) (hs : s.size ≤ 10000000) :
    Calls Tryz.prog 53 #[.pointer (some ⟨g, 0, none⟩), .string s] w fun e w' => e = .returned (.tuple #[]) ∧ StepF w F g (l ++ Tp.txt s) w' := by
  obtain ⟨k, h1, h2, h3, h4⟩ := hp
  refine (Tp.pen_text2 h1 hl s hs).mono ?_
  rintro e w' ⟨rfl, hw⟩
  exact ⟨rfl, StepF.of_wrote h2 h3 h4 hw⟩
theorem penF_flag {w : World} {F : Nat → Prop} {g : Nat} {l : List Nat} {b : Bool} (hp : PenF w F g l) (hl : l.length ≤ 80000000) :
    Calls Tryz.prog 56 #[.pointer (some ⟨g, 0, none⟩), .bool b] w fun e w' => e = .returned (.tuple #[]) ∧ StepF w F g (l ++ encZ (if b then 1 else 0)) w' := by
  cases b with
  | true =>
    have H := Lib.hid (penF_num (z := 1) hp hl)
    clear hp
    go_enter Tryz.func56, Tryz.ntmps56
    go_wp2_with fail
    refine H.out.mono ?_
    rintro e w1 ⟨⟨b0, rfl⟩, h⟩
    have HH := Lib.hid h
    clear h H
    go_wp2_with fail
    go_end0
    exact ⟨rfl, HH.out⟩
  | false =>
    have H := Lib.hid (penF_num (z := 0) hp hl)
    clear hp
    go_enter Tryz.func56, Tryz.ntmps56
    go_wp2_with fail
    refine H.out.mono ?_
    rintro e w1 ⟨⟨b0, rfl⟩, h⟩
    have HH := Lib.hid h
    clear h H
    go_wp2_with fail
    go_end0
    exact ⟨rfl, HH.out⟩
theorem flat_take {α : Type} (f : α → List Nat) (l : List α) (m : Nat) : ((l.take m).flatMap f).length ≤ (l.flatMap f).length := by
  have h := congrArg (fun x => (x.flatMap f).length) (List.take_append_drop m l)
  simp only [List.flatMap_append, List.length_append] at h
  omega
def PutF {α : Type} (w : World) (F : Nat → Prop) (g : Nat) (p : List Nat) (f : α → List Nat) (l : List α) (k : Nat) (i : Value) (wr : World) : Prop :=
  ∃ m, m + k = l.length ∧ i = .int .i64 (m : Int) ∧ StepF w F g (p ++ (Tp.enc l.length ++ (l.take m).flatMap f)) wr
set_option maxRecDepth 100000 in
set_option maxHeartbeats 1000000 in
theorem labelPut_any {w : World} {F : Nat → Prop} {g : Nat} {p : List Nat} {v : Value} {l : List Ent} (hp : PenF w F g p) (hl : SlV w F v l.length (entCells l)) (hn : l.length ≤ 10000000) (hx : ∀ e ∈ l, e.1.length ≤ 10000000) (hb : (p ++ labBytes l).length ≤ 80000000) :
    Calls Tryz.prog 52 #[.pointer (some ⟨g, 0, none⟩), v] w fun e w' => e = .returned (.tuple #[]) ∧ StepF w F g (p ++ labBytes l) w' := by
  obtain ⟨A, c, rfl, hA1, hA2, hsl⟩ := hl
  have HL := Lib.hid hsl
  have HX := Lib.hid hx
  have hq : encZ (l.length : Int) = Tp.enc l.length := by unfold encZ; rw [if_pos (by omega)]; simp
  have HB : Hid (∀ m, (p ++ (Tp.enc l.length ++ (l.take m).flatMap entBytes)).length ≤ 80000000) := fun m => by
    have := flat_take entBytes l m
    unfold labBytes at hb
    simp only [List.length_append] at hb ⊢
    omega
  have hpl : p.length ≤ 80000000 := by rw [List.length_append] at hb; omega
  have HN := Lib.hid (penF_num (z := (l.length : Int)) hp hpl)
  rw [hq] at HN
  clear hsl hx hq hb hp
  go_enter Tryz.func52, Tryz.ntmps52
  go_wp2_with fail
  refine HN.out.mono ?_
  rintro e w1 ⟨⟨b0, rfl⟩, h1⟩
  have H1 := Lib.hid h1
  clear h1 HN
  go_wp2_with fail
  go_loopg [12] l.length (fun k i wr => PutF w F g p entBytes l k i wr)
  case atStart => exact ⟨0, by simp, rfl, by simpa using H1.out⟩
  case round =>
    obtain ⟨m, hmk, hi, hst⟩ := hrel
    subst hi
    have HST := Lib.hid hst
    cases gk with
    | zero =>
      have hge : l.length ≤ m := by omega
      have HF : Hid (StepF w F g (p ++ labBytes l) wr) := by
        have := hst
        rw [List.take_of_length_le hge] at this
        exact this
      clear hst
      go_wp2_with fail
      go_end0
      exact ⟨rfl, HF.out⟩
    | succ j =>
      have hm : m < l.length := by omega
      obtain ⟨⟨t, n⟩, hx⟩ : ∃ x, l[m]? = some x := ⟨_, List.getElem?_eq_getElem hm⟩
      obtain ⟨F1, hp1, hs1⟩ := hst
      obtain ⟨b, o, rfl, -, hlt, hcells⟩ := (HL.out.stp hs1) (by rw [entCells_length]; omega)
      obtain ⟨e1, e2⟩ := entCells_at hx
      have c1 := hcells _ _ e1
      have c2 := hcells _ _ e2
      rw [← Nat.add_assoc] at c2
      have HM := Lib.hid hmk
      have htl : t.length ≤ 10000000 := HX.out _ (List.mem_of_getElem? hx)
      obtain ⟨pb, hpb⟩ : ∃ pb, pb = p ++ (Tp.enc l.length ++ (l.take m).flatMap entBytes) := ⟨_, rfl⟩
      have HPB : Hid (pb ++ Tp.txt (str t) ++ encZ n = p ++ (Tp.enc l.length ++ (l.take (m + 1)).flatMap entBytes)) := by
        unfold Hid
        rw [List.take_add_one, hx, List.flatMap_append, hpb]
        simp [entBytes]
      have hpbl := HB.out m
      have hpbl2 := HB.out (m + 1)
      rw [← HPB.out] at hpbl2
      rw [← hpb] at hp1 hpbl
      have hal := (Below.refl wr.heap.size wr).alloc (Nat.le_refl _) (.cells #[.string (str t), .int .i64 n] 42)
      have H53 := Lib.hid (penF_txt (s := str t) (hp1.on hal) hpbl (by rw [str_size]; exact htl))
      have X0 := Lib.hid (BoxAt.new wr #[.string (str t), .int .i64 n] 42)
      have hnF : ¬ F1 wr.heap.size := fun h => by
        obtain ⟨_, _, _, _, hlt⟩ := hp1
        have := hlt _ h
        omega
      have HNF := Lib.hid hnF
      have HS0 : Hid (Stp w F (wr.alloc (.cells #[.string (str t), .int .i64 n] 42)) F1) := hs1.trans (Stp.of_below hal)
      have hq1 : (pb ++ Tp.txt (str t)).length ≤ 80000000 := by rw [List.length_append] at hpbl2; omega
      have HQ1 := Lib.hid hq1
      clear hx hmk hpb hp1 hal hcells e1 e2 hs1 hpbl2 hq1 hnF
      go_wp2_with fail
      refine H53.out.mono ?_
      rintro e w2 ⟨rfl, F2, hp2, hs2⟩
      have x2 := X0.out.kp hs2.1 HNF.out
      have c4 := x2.cell (k := 1) rfl
      have H51 := Lib.hid (penF_num (z := n) hp2 HQ1.out)
      have S2 := Lib.hid (HS0.out.trans hs2)
      clear hp2 hs2 x2 H53
      go_wp2_with fail
      refine H51.out.mono ?_
      rintro e w3 ⟨⟨b1, rfl⟩, h3⟩
      have H3 : Hid (StepF w F g (p ++ (Tp.enc l.length ++ (l.take (m + 1)).flatMap entBytes)) w3) := by rw [← HPB.out]; exact PenF.then S2.out h3
      clear h3 H51 c4 c1 c2
      go_wp2_with fail
      go_roundg j
      case measure => omega
      case rel => exact ⟨m + 1, by have := HM.out; omega, by go_num, H3.out⟩
set_option maxRecDepth 100000 in
set_option maxHeartbeats 1000000 in
theorem ownsPut_any {w : World} {F : Nat → Prop} {g : Nat} {p : List Nat} {v : Value} {l : List (List UInt8)} (hp : PenF w F g p) (hl : SlV w F v l.length (strCellsOf l)) (hn : l.length ≤ 10000000) (hx : ∀ x ∈ l, x.length ≤ 10000000) (hb : (p ++ ownBytes l).length ≤ 80000000) :
    Calls Tryz.prog 54 #[.pointer (some ⟨g, 0, none⟩), v] w fun e w' => e = .returned (.tuple #[]) ∧ StepF w F g (p ++ ownBytes l) w' := by
  obtain ⟨A, c, rfl, hA1, hA2, hsl⟩ := hl
  have HL := Lib.hid hsl
  have HX := Lib.hid hx
  have hq : encZ (l.length : Int) = Tp.enc l.length := by unfold encZ; rw [if_pos (by omega)]; simp
  have HB : Hid (∀ m, (p ++ (Tp.enc l.length ++ (l.take m).flatMap catBytes)).length ≤ 80000000) := fun m => by
    have := flat_take catBytes l m
    unfold ownBytes at hb
    simp only [List.length_append] at hb ⊢
    omega
  have hpl : p.length ≤ 80000000 := by rw [List.length_append] at hb; omega
  have HN := Lib.hid (penF_num (z := (l.length : Int)) hp hpl)
  rw [hq] at HN
  clear hsl hx hq hb hp
  go_enter Tryz.func54, Tryz.ntmps54
  go_wp2_with fail
  refine HN.out.mono ?_
  rintro e w1 ⟨⟨b0, rfl⟩, h1⟩
  have H1 := Lib.hid h1
  clear h1 HN
  go_wp2_with fail
  go_loopg [12] l.length (fun k i wr => PutF w F g p catBytes l k i wr)
  case atStart => exact ⟨0, by simp, rfl, by simpa using H1.out⟩
  case round =>
    obtain ⟨m, hmk, hi, hst⟩ := hrel
    subst hi
    cases gk with
    | zero =>
      have hge : l.length ≤ m := by omega
      have HF : Hid (StepF w F g (p ++ ownBytes l) wr) := by
        have := hst
        rw [List.take_of_length_le hge] at this
        exact this
      clear hst
      go_wp2_with fail
      go_end0
      exact ⟨rfl, HF.out⟩
    | succ j =>
      have hm : m < l.length := by omega
      obtain ⟨t, hx⟩ : ∃ x, l[m]? = some x := ⟨_, List.getElem?_eq_getElem hm⟩
      obtain ⟨F1, hp1, hs1⟩ := hst
      obtain ⟨b, o, rfl, -, hlt, hcells⟩ := (HL.out.stp hs1) (by unfold strCellsOf; rw [List.length_map]; omega)
      have c1 := hcells m (.string (str t)) (by simp [strCellsOf, hx])
      have HM := Lib.hid hmk
      have htl : t.length ≤ 10000000 := HX.out _ (List.mem_of_getElem? hx)
      obtain ⟨pb, hpb⟩ : ∃ pb, pb = p ++ (Tp.enc l.length ++ (l.take m).flatMap catBytes) := ⟨_, rfl⟩
      have HPB : Hid (pb ++ Tp.txt (str t) = p ++ (Tp.enc l.length ++ (l.take (m + 1)).flatMap catBytes)) := by
        unfold Hid
        rw [List.take_add_one, hx, List.flatMap_append, hpb]
        simp [catBytes]
      have hpbl := HB.out m
      rw [← hpb] at hp1 hpbl
      have H53 := Lib.hid (penF_txt (s := str t) hp1 hpbl (by rw [str_size]; exact htl))
      have S1 := Lib.hid hs1
      clear hx hmk hpb hp1 hcells hs1
      go_wp2_with fail
      refine H53.out.mono ?_
      rintro e w2 ⟨rfl, h2⟩
      have H3 : Hid (StepF w F g (p ++ (Tp.enc l.length ++ (l.take (m + 1)).flatMap catBytes)) w2) := by rw [← HPB.out]; exact PenF.then S1.out h2
      clear h2 H53 c1
      go_wp2_with fail
      go_roundg j
      case measure => omega
      case rel => exact ⟨m + 1, by have := HM.out; omega, by go_num, H3.out⟩
set_option maxRecDepth 100000 in
set_option maxHeartbeats 1000000 in
theorem pathPut_any {w : World} {F : Nat → Prop} {g : Nat} {p : List Nat} {v : Value} {l : List Int} (hp : PenF w F g p) (hl : SlV w F v l.length (Pa.zCellsOf l)) (hn : l.length ≤ 10000000) (hb : (p ++ zBytes l).length ≤ 80000000) :
    Calls Tryz.prog 55 #[.pointer (some ⟨g, 0, none⟩), v] w fun e w' => e = .returned (.tuple #[]) ∧ StepF w F g (p ++ zBytes l) w' := by
  obtain ⟨A, c, rfl, hA1, hA2, hsl⟩ := hl
  have HL := Lib.hid hsl
  have hq : encZ (l.length : Int) = Tp.enc l.length := by unfold encZ; rw [if_pos (by omega)]; simp
  have HB : Hid (∀ m, (p ++ (Tp.enc l.length ++ (l.take m).flatMap encZ)).length ≤ 80000000) := fun m => by
    have := flat_take encZ l m
    unfold zBytes at hb
    simp only [List.length_append] at hb ⊢
    omega
  have hpl : p.length ≤ 80000000 := by rw [List.length_append] at hb; omega
  have HN := Lib.hid (penF_num (z := (l.length : Int)) hp hpl)
  rw [hq] at HN
  clear hsl hq hb hp
  go_enter Tryz.func55, Tryz.ntmps55
  go_wp2_with fail
  refine HN.out.mono ?_
  rintro e w1 ⟨⟨b0, rfl⟩, h1⟩
  have H1 := Lib.hid h1
  clear h1 HN
  go_wp2_with fail
  go_loopg [12] l.length (fun k i wr => PutF w F g p encZ l k i wr)
  case atStart => exact ⟨0, by simp, rfl, by simpa using H1.out⟩
  case round =>
    obtain ⟨m, hmk, hi, hst⟩ := hrel
    subst hi
    cases gk with
    | zero =>
      have hge : l.length ≤ m := by omega
      have HF : Hid (StepF w F g (p ++ zBytes l) wr) := by
        have := hst
        rw [List.take_of_length_le hge] at this
        exact this
      clear hst
      go_wp2_with fail
      go_end0
      exact ⟨rfl, HF.out⟩
    | succ j =>
      have hm : m < l.length := by omega
      obtain ⟨z, hx⟩ : ∃ x, l[m]? = some x := ⟨_, List.getElem?_eq_getElem hm⟩
      obtain ⟨F1, hp1, hs1⟩ := hst
      obtain ⟨b, o, rfl, -, hlt, hcells⟩ := (HL.out.stp hs1) (by unfold Pa.zCellsOf; rw [List.length_map]; omega)
      have c1 := hcells m (.int .i64 z) (by simp [Pa.zCellsOf, hx])
      have HM := Lib.hid hmk
      obtain ⟨pb, hpb⟩ : ∃ pb, pb = p ++ (Tp.enc l.length ++ (l.take m).flatMap encZ) := ⟨_, rfl⟩
      have HPB : Hid (pb ++ encZ z = p ++ (Tp.enc l.length ++ (l.take (m + 1)).flatMap encZ)) := by
        unfold Hid
        rw [List.take_add_one, hx, List.flatMap_append, hpb]
        simp
      have hpbl := HB.out m
      rw [← hpb] at hp1 hpbl
      have H51 := Lib.hid (penF_num (z := z) hp1 hpbl)
      have S1 := Lib.hid hs1
      clear hx hmk hpb hp1 hcells hs1
      go_wp2_with fail
      refine H51.out.mono ?_
      rintro e w2 ⟨⟨b1, rfl⟩, h2⟩
      have H3 : Hid (StepF w F g (p ++ (Tp.enc l.length ++ (l.take (m + 1)).flatMap encZ)) w2) := by rw [← HPB.out]; exact PenF.then S1.out h2
      clear h2 H51 c1
      go_wp2_with fail
      go_roundg j
      case measure => omega
      case rel => exact ⟨m + 1, by have := HM.out; omega, by go_num, H3.out⟩
end Go.Proofs.YtgcbfggoddkhnaaGreatDoor

namespace Go.Proofs.YtgcbfggoddkhnaaGreatDoor
open Go.RowKit
set_option maxRecDepth 100000 in
theorem conv_bytes (w : World) (l : List Nat) : ∃ c W, (convert 9 25 (.string (Tp.str l))).run Tryz.prog w = .ok (.slice (some ⟨w.heap.size, 0, none⟩) l.length c) W ∧ Below w.heap.size w W ∧ (Tp.Sml l → SlV W (fun b => b < w.heap.size) (.slice (some ⟨w.heap.size, 0, none⟩) l.length c) l.length (Tp.cellsOf l)) := by
  refine ⟨grownCap w (Tp.str l).size 0 5, Lib.bytesWorld w 5 (Tp.str l), ?_, ?_, fun hs => ?_⟩
  · rw [Lib.run_convert_string_bytes w 9 25 5 (Tp.str l) Tryz.underlying9 Tryz.underlying25 Tryz.underlying5, Tp.str_size]
  · refine ⟨rfl, rfl, rfl, ?_, fun k hk => Lib.bytesWorld_at_old w 5 _ k hk⟩
    have h := Lib.bytesWorld_at_new w 5 (Tp.str l)
    have := (Array.getElem?_eq_some_iff.1 h).1
    omega
  · have h := Lib.bytesWorld_at_new w 5 (Tp.str l)
    refine ⟨_, _, rfl, (fun h => by cases h), by have := grownCap_ge w (Tp.str l).size 0 5; rw [Tp.str_size] at this ⊢; exact this, fun _ => ⟨w.heap.size, 0, rfl, by simp, (Array.getElem?_eq_some_iff.1 h).1, fun k u hu => ?_⟩⟩
    obtain ⟨c, hc, rfl⟩ := Tp.cellsOf_get hu
    rw [Nat.zero_add]
    have hb : (Tp.str l).data[k]? = some (UInt8.ofNat c) ∧ (UInt8.ofNat c).toNat = c := by
      have h1 := congrArg (fun x => x[k]?) (Tp.bys_str hs)
      simp only [hc, Tp.bys, List.getElem?_map] at h1
      cases hq : (Tp.str l).data.toList[k]? with
      | none => rw [hq] at h1; cases h1
      | some y =>
        rw [hq] at h1
        simp at h1
        subst h1
        exact ⟨by simpa using hq, by simp⟩
    simp only [World.cell?, h, Lib.bytesCells]
    rw [Array.getElem?_append_left (by
      have := (Array.getElem?_eq_some_iff.1 hb.1).1
      simpa using this)]
    simp [hb.1, hb.2]
def goodI (s : St) : Prop := (itemS s).2.2 = true ∧ RightL (itemS s).1.2.lab ∧ OwnL (itemS s).1.2.own ∧ RightL (itemS s).1.2.entry
noncomputable instance (s : St) : Decidable (goodI s) := inferInstanceAs (Decidable (_ ∧ _))
def RetItem (w : World) (s : St) (e : Ending) (w' : World) : Prop :=
  ∃ vp vo, e = .returned (.tuple #[vp, vo, .bool (decide (goodI s))]) ∧ ShapeO vo ∧ (∃ A n c, vp = .slice A n c) ∧
    (goodI s → SlV w' (fun b => b < w.heap.size) vp (itemS s).1.1.length (Pa.zCellsOf (itemS s).1.1) ∧ ∃ vk, w'.ownsRow w.heap.size 85 3 vk (itemS s).1.2.kids.length (kidCells (itemS s).1.2.kids) ∧ ObjK w' (fun x => x < w.heap.size ∨ vk.ownBlock = some x) vo vk (itemS s).1.2)
end Go.Proofs.YtgcbfggoddkhnaaGreatDoor

namespace Go.Proofs.YtgcbfggoddkhnaaGreatDoor
open Go.RowKit
theorem results_tct {fn : Func} {t p u : Tmp} {ty : TypeId} (h : fn.results = #[.tmp t, .cell p ty, .tmp u]) (tmps : Array Value) (P : Program) (w : World) :
    (results fn tmps).run P w =
      ((asAddr (tmps.getD p undef)).run P w).andThen fun a w₁ => ((loadVar ty a).run P w₁).andThen fun v w₂ => .ok (.tuple #[tmps.getD t undef, v, tmps.getD u undef]) w₂ := by
  simp only [results, h]
  simp [Sem.run_bind, Result.andThen]
set_option maxRecDepth 100000 in
theorem eq171 (a b c d e : Int) (W : World) : (binOp .eql 171 (.agg #[.int .i64 a, .int .i64 b, .int .i64 c, .int .i64 d, .int .i64 e]) (.agg #[.int .i64 0, .int .i64 0, .int .i64 0, .int .i64 0, .int .i64 0])).run Tryz.prog W = .ok (.bool (a == 0 && (b == 0 && (c == 0 && (d == 0 && e == 0))))) W := by
  obtain ⟨i, hi⟩ : ∃ i, Tryz.prog.info? 60 = some i := Option.isSome_iff_exists.1 (by kernel_rfl)
  have hc : Tryz.prog.cellsOf 60 = 1 := by kernel_rfl
  have hr : List.range 5 = [0, 1, 2, 3, 4] := rfl
  have he : ∀ (x : Int) (W : World), (Op.equalIn 9999 60 (.int .i64 x) (.int .i64 0)).run Tryz.prog W = .ok (x == 0) W := fun x W => run_equalIn_int (w := W) (P := Tryz.prog) 9998 60 _ _ x 0 Tryz.underlying60
  simp only [binOp]
  simp [Op.equal, Op.maxDepth, run_equalIn_array W 9999 _ _ Tryz.underlying171 hi, hc, hr, Op.eqItems, part, he]
  by_cases h1 : a = 0 <;> by_cases h2 : b = 0 <;> by_cases h3 : c = 0 <;> by_cases h4 : d = 0 <;> by_cases h5 : e = 0 <;> simp_all
end Go.Proofs.YtgcbfggoddkhnaaGreatDoor
