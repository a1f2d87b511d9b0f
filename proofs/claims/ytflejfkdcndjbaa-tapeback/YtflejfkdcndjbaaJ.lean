/- A tape and two pens that lie apart: what each call of theirs does. -/
import Derived.Test.YtflejfkdcndjbaaI
namespace Go.Proofs.Ytflejfkdcndjbaa
open Go.RowKit

def Dis (S T : Nat → Prop) : Prop := ∀ b, S b → T b → False
theorem Dis.symm {S T : Nat → Prop} (h : Dis S T) : Dis T S := fun b h1 h2 => h b h2 h1

/-- Nothing below B has turned, nor has block x. -/
def Keep (B : Nat) (x : Option Nat) (w w' : World) : Prop := Below B w w' ∧ ∀ j, x = some j → w'.heap[j]? = w.heap[j]?
theorem Keep.trans {B : Nat} {x : Option Nat} {a b c : World} (h : Keep B x a b) (k : Keep B x b c) : Keep B x a c := ⟨h.1.trans k.1, fun j hj => (k.2 j hj).trans (h.2 j hj)⟩
theorem Keep.refl (B : Nat) (x : Option Nat) (w : World) : Keep B x w w := ⟨Below.refl _ _, fun _ _ => rfl⟩

/-- A tape in gt and pens in gp and gw, apart from each other, from what lies below B and from block x. -/
def St (B : Nat) (x : Option Nat) (w : World) (gt gp gw : Nat) (left : List Nat) (E : Value) (pl wl : List Nat) : Prop :=
  ∃ kt kp kw, TapeAt w gt kt left E ∧ PenAt w gp kp pl ∧ PenAt w gw kw wl ∧ Dis (Own gt kt) (Own gp kp) ∧ Dis (Own gt kt) (Own gw kw) ∧ Dis (Own gp kp) (Own gw kw) ∧
    (∀ b, Own gt kt b ∨ Own gp kp b ∨ Own gw kw b → B ≤ b ∧ x ≠ some b) ∧ B ≤ w.heap.size ∧ ∀ j, x = some j → j < w.heap.size

theorem St.swap {B : Nat} {x : Option Nat} {w : World} {gt gp gw : Nat} {left : List Nat} {E : Value} {pl wl : List Nat} (h : St B x w gt gp gw left E pl wl) : St B x w gt gw gp left E wl pl := by
  obtain ⟨kt, kp, kw, h1, h2, h3, h4, h5, h6, h7, h8⟩ := h
  exact ⟨kt, kw, kp, h1, h3, h2, h5, h4, h6.symm, fun b hb => h7 b (by rcases hb with h | h | h <;> simp [h]), h8⟩

theorem PenAt.own_lt {w : World} {g : Nat} {k : Option Nat} {l : List Nat} (h : PenAt w g k l) : ∀ b, Own g k b → b < w.heap.size := by
  rintro b (rfl | hb)
  · exact h.lt
  · exact h.row_lt b hb
theorem TapeAt.own_lt {w : World} {g : Nat} {k : Option Nat} {l : List Nat} {E : Value} (h : TapeAt w g k l E) : ∀ b, Own g k b → b < w.heap.size := by
  rintro b (rfl | hb)
  · exact h.lt
  · exact h.row_lt b hb
theorem PenAt.dis {S : Nat → Prop} {w w' : World} {g : Nat} {k : Option Nat} {l : List Nat} (h : PenAt w g k l) (hk : Kp S w w') (hd : Dis (Own g k) S) : PenAt w' g k l :=
  h.kp hk (fun hs => hd g (.inl rfl) hs) (fun j hj hs => hd j (.inr hj) hs)
theorem TapeAt.dis {S : Nat → Prop} {w w' : World} {g : Nat} {k : Option Nat} {l : List Nat} {E : Value} (h : TapeAt w g k l E) (hk : Kp S w w') (hd : Dis (Own g k) S) : TapeAt w' g k l E :=
  h.kp hk (fun hs => hd g (.inl rfl) hs) (fun j hj hs => hd j (.inr hj) hs)

/-- A pen's new blocks are apart from what was apart. -/
theorem dis_new {w : World} {g : Nat} {k k' : Option Nat} {S : Nat → Prop} (hk : k' = k ∨ ∃ j, k' = some j ∧ w.heap.size ≤ j) (hd : Dis S (Own g k)) (hS : ∀ b, S b → b < w.heap.size) : Dis S (Own g k') := by
  rintro b hb (rfl | h)
  · exact hd b hb (.inl rfl)
  · rcases hk with rfl | ⟨j, hj, hle⟩
    · exact hd b hb (.inr h)
    · rw [hj] at h; injection h with h
      have := hS b hb
      omega

theorem St.wrote {B : Nat} {x : Option Nat} {w w' : World} {gt gp gw : Nat} {left : List Nat} {E : Value} {wl pl' : List Nat} {kt kp kw : Option Nat}
    (h1 : TapeAt w gt kt left E) (h3 : PenAt w gw kw wl) (h4 : Dis (Own gt kt) (Own gp kp)) (h5 : Dis (Own gt kt) (Own gw kw)) (h6 : Dis (Own gp kp) (Own gw kw))
    (h7 : ∀ b, Own gt kt b ∨ Own gp kp b ∨ Own gw kw b → B ≤ b ∧ x ≠ some b) (h8 : B ≤ w.heap.size) (h9 : ∀ j, x = some j → j < w.heap.size) (hw : Wrote w gp kp pl' w') : St B x w' gt gp gw left E pl' wl ∧ Keep B x w w' := by
  obtain ⟨kp', hp', hk', hkp⟩ := hw
  refine ⟨⟨kt, kp', kw, h1.dis hkp h4, hp', h3.dis hkp h6.symm, dis_new hk' h4 h1.own_lt, h5, (dis_new hk' h6.symm h3.own_lt).symm, ?_, Nat.le_trans h8 hkp.size, fun j hj => Nat.lt_of_lt_of_le (h9 j hj) hkp.size⟩, hkp.below h8 (fun b hb => (h7 b (.inr (.inl hb))).1), fun j hj => hkp.block j (h9 j hj) (fun hb => (h7 j (.inr (.inl hb))).2 hj)⟩
  rintro b (hb | (rfl | hb) | hb)
  · exact h7 b (.inl hb)
  · exact h7 b (.inr (.inl (.inl rfl)))
  · rcases hk' with rfl | ⟨j, hj, hle⟩
    · exact h7 b (.inr (.inl (.inr hb)))
    · rw [hj] at hb; injection hb with hb
      exact ⟨by omega, fun e => by have := h9 b e; omega⟩
  · exact h7 b (.inr (.inr hb))

/-- It answers v; the state is as told; what was to be kept is kept. -/
def StRet (B : Nat) (x : Option Nat) (v : Value) (gt gp gw : Nat) (left : List Nat) (E : Value) (pl wl : List Nat) (w : World) (e : Ending) (w' : World) : Prop := e = .returned v ∧ St B x w' gt gp gw left E pl wl ∧ Keep B x w w'

theorem st_pnum {B : Nat} {x : Option Nat} {w : World} {gt gp gw : Nat} {left : List Nat} {E : Value} {pl wl : List Nat} {n : Nat} (h : St B x w gt gp gw left E pl wl) (hn : n ≤ 4611686018427387903) (hl : pl.length ≤ 900000) :
    Calls Try.prog 6 #[.pointer (some ⟨gp, 0, none⟩), .int .i64 (n : Int)] w (StRet B x (.bool true) gt gp gw left E (pl ++ enc n) wl w) := by
  obtain ⟨kt, kp, kw, h1, h2, h3, h4, h5, h6, h7, h8, h9⟩ := h
  exact (pen_number h2 hn hl).mono fun e w' ⟨he, hw⟩ => ⟨he, St.wrote h1 h3 h4 h5 h6 h7 h8 h9 hw⟩
theorem st_ptxt {B : Nat} {x : Option Nat} {w : World} {gt gp gw : Nat} {left : List Nat} {E : Value} {pl wl : List Nat} (h : St B x w gt gp gw left E pl wl) (s : ByteArray) (hs : s.size ≤ 3000) (hl : pl.length ≤ 800000) :
    Calls Try.prog 10 #[.pointer (some ⟨gp, 0, none⟩), .string s] w (StRet B x (.tuple #[]) gt gp gw left E (pl ++ txt s) wl w) := by
  obtain ⟨kt, kp, kw, h1, h2, h3, h4, h5, h6, h7, h8, h9⟩ := h
  exact (pen_text h2 hl s hs).mono fun e w' ⟨he, hw⟩ => ⟨he, St.wrote h1 h3 h4 h5 h6 h7 h8 h9 hw⟩
theorem st_wnum {B : Nat} {x : Option Nat} {w : World} {gt gp gw : Nat} {left : List Nat} {E : Value} {pl wl : List Nat} {n : Nat} (h : St B x w gt gp gw left E pl wl) (hn : n ≤ 4611686018427387903) (hl : wl.length ≤ 900000) :
    Calls Try.prog 6 #[.pointer (some ⟨gw, 0, none⟩), .int .i64 (n : Int)] w (StRet B x (.bool true) gt gp gw left E pl (wl ++ enc n) w) :=
  (st_pnum h.swap hn hl).mono fun _ _ ⟨he, hs, hk⟩ => ⟨he, hs.swap, hk⟩
theorem st_wtxt {B : Nat} {x : Option Nat} {w : World} {gt gp gw : Nat} {left : List Nat} {E : Value} {pl wl : List Nat} (h : St B x w gt gp gw left E pl wl) (s : ByteArray) (hs : s.size ≤ 3000) (hl : wl.length ≤ 800000) :
    Calls Try.prog 10 #[.pointer (some ⟨gw, 0, none⟩), .string s] w (StRet B x (.tuple #[]) gt gp gw left E pl (wl ++ txt s) w) :=
  (st_ptxt h.swap s hs hl).mono fun _ _ ⟨he, hs, hk⟩ => ⟨he, hs.swap, hk⟩

theorem St.read {B : Nat} {x : Option Nat} {w w' : World} {gt gp gw : Nat} {left' : List Nat} {E' : Value} {pl wl : List Nat} {kt kp kw : Option Nat}
    (h2 : PenAt w gp kp pl) (h3 : PenAt w gw kw wl) (h4 : Dis (Own gt kt) (Own gp kp)) (h5 : Dis (Own gt kt) (Own gw kw)) (h6 : Dis (Own gp kp) (Own gw kw))
    (h7 : ∀ b, Own gt kt b ∨ Own gp kp b ∨ Own gw kw b → B ≤ b ∧ x ≠ some b) (h8 : B ≤ w.heap.size) (h9 : ∀ j, x = some j → j < w.heap.size) (hk : Kp (fun b => b = gt) w w') (ht : TapeAt w' gt kt left' E') : St B x w' gt gp gw left' E' pl wl :=
  ⟨kt, kp, kw, ht, h2.dis hk (fun b hb e => h4 b (.inl e) hb), h3.dis hk (fun b hb e => h5 b (.inl e) hb), h4, h5, h6, h7, Nat.le_trans h8 hk.size, fun j hj => Nat.lt_of_lt_of_le (h9 j hj) hk.size⟩
theorem St.readKeep {B : Nat} {x : Option Nat} {w w' : World} {gt gp gw : Nat} {kt kp kw : Option Nat} (h7 : ∀ b, Own gt kt b ∨ Own gp kp b ∨ Own gw kw b → B ≤ b ∧ x ≠ some b) (h8 : B ≤ w.heap.size) (h9 : ∀ j, x = some j → j < w.heap.size) (hk : Kp (fun b => b = gt) w w') : Keep B x w w' :=
  ⟨hk.below h8 (fun b hb => (h7 b (.inl (.inl hb))).1), fun j hj => hk.block j (h9 j hj) (fun e => (h7 j (.inl (.inl e))).2 hj)⟩

def StNum (B : Nat) (x : Option Nat) (gt gp gw : Nat) (left : List Nat) (most : Int) (pl wl : List Nat) (w : World) (e : Ending) (w' : World) : Prop :=
  Keep B x w w' ∧ ((∃ (n : Nat) (r : List Nat), left = enc n ++ r ∧ (n : Int) ≤ most ∧ e = .returned (.int .i64 (n : Int)) ∧ St B x w' gt gp gw r .nilIface pl wl) ∨
    (e = .returned (.int .i64 0) ∧ ∃ T y, St B x w' gt gp gw left (.iface T y) pl wl))

theorem st_tnum {B : Nat} {x : Option Nat} {w : World} {gt gp gw : Nat} {left : List Nat} {pl wl : List Nat} {most : Int} (h : St B x w gt gp gw left .nilIface pl wl) (hs : Sml left) (hl : left.length ≤ 900000) :
    Calls Try.prog 14 #[.pointer (some ⟨gt, 0, none⟩), .int .i64 most] w (StNum B x gt gp gw left most pl wl w) := by
  obtain ⟨kt, kp, kw, h1, h2, h3, h4, h5, h6, h7, h8, h9⟩ := h
  refine (tape_number h1 hs hl).mono ?_
  rintro e w' ⟨hk, ⟨n, r, hl, hle, _, he, ht⟩ | ⟨_, he, T, y, ht⟩⟩
  · exact ⟨St.readKeep h7 h8 h9 hk, .inl ⟨n, r, hl, hle, he, St.read h2 h3 h4 h5 h6 h7 h8 h9 hk ht⟩⟩
  · exact ⟨St.readKeep h7 h8 h9 hk, .inr ⟨he, T, y, St.read h2 h3 h4 h5 h6 h7 h8 h9 hk ht⟩⟩
def StTxt (B : Nat) (x : Option Nat) (gt gp gw : Nat) (left : List Nat) (most : Int) (pl wl : List Nat) (w : World) (e : Ending) (w' : World) : Prop :=
  Keep B x w w' ∧ ((∃ s r : List Nat, left = enc s.length ++ (s ++ r) ∧ (s.length : Int) ≤ most ∧ e = .returned (.string (str s)) ∧ St B x w' gt gp gw r .nilIface pl wl) ∨
    (e = .returned (.string ⟨#[]⟩) ∧ ∃ T y, St B x w' gt gp gw left (.iface T y) pl wl))
theorem st_ttxt {B : Nat} {x : Option Nat} {w : World} {gt gp gw : Nat} {left : List Nat} {pl wl : List Nat} {most : Int} (h : St B x w gt gp gw left .nilIface pl wl) (hs : Sml left) (hl : left.length ≤ 900000) :
    Calls Try.prog 15 #[.pointer (some ⟨gt, 0, none⟩), .int .i64 most] w (StTxt B x gt gp gw left most pl wl w) := by
  obtain ⟨kt, kp, kw, h1, h2, h3, h4, h5, h6, h7, h8, h9⟩ := h
  refine (tape_text h1 hs hl).mono ?_
  rintro e w' ⟨hk, ⟨s, r, hl, hle, he, ht⟩ | ⟨_, he, T, y, ht⟩⟩
  · exact ⟨St.readKeep h7 h8 h9 hk, .inl ⟨s, r, hl, hle, he, St.read h2 h3 h4 h5 h6 h7 h8 h9 hk ht⟩⟩
  · exact ⟨St.readKeep h7 h8 h9 hk, .inr ⟨he, T, y, St.read h2 h3 h4 h5 h6 h7 h8 h9 hk ht⟩⟩
/-- What was read so far has been written, unless there was a fault. -/
def Inv (bl pl left : List Nat) (E : Value) : Prop := ((E = .nilIface ∧ bl = pl ++ left) ∨ ∃ T y, E = .iface T y) ∧ Sml left ∧ left.length ≤ 2000

theorem sml_right {p r : List Nat} (h : Sml (p ++ r)) : Sml r := fun c hc => h c (List.mem_append_right _ hc)
theorem sml_left {p r : List Nat} (h : Sml (p ++ r)) : Sml p := fun c hc => h c (List.mem_append_left _ hc)

theorem st_num_inv {B : Nat} {x : Option Nat} {w : World} {gt gp gw : Nat} {left : List Nat} {E : Value} {bl pl wl : List Nat} (h : St B x w gt gp gw left E pl wl) (hI : Inv bl pl left E) :
    Calls Try.prog 14 #[.pointer (some ⟨gt, 0, none⟩), .int .i64 4611686018427387903] w fun e w' => ∃ (n : Nat) (left' : List Nat) (E' : Value), e = .returned (.int .i64 (n : Int)) ∧ n ≤ 4611686018427387903 ∧ St B x w' gt gp gw left' E' pl wl ∧ Inv bl (pl ++ enc n) left' E' ∧ Keep B x w w' := by
  obtain ⟨hE, hs, hl⟩ := hI
  rcases hE with ⟨rfl, hb⟩ | ⟨T, y, rfl⟩
  · refine (st_tnum h hs (by omega)).mono ?_
    rintro e w' ⟨hk, ⟨n, r, rfl, hle, rfl, hst⟩ | ⟨rfl, T, y, hst⟩⟩
    · rw [List.length_append] at hl
      exact ⟨n, r, .nilIface, rfl, by omega, hst, ⟨.inl ⟨rfl, by rw [hb, List.append_assoc]⟩, sml_right hs, by omega⟩, hk⟩
    · exact ⟨0, left, _, rfl, by omega, hst, ⟨.inr ⟨T, y, rfl⟩, hs, hl⟩, hk⟩
  · have h0 := h
    obtain ⟨kt, kp, kw, h1, _⟩ := h
    refine (tape_number_fault h1).mono ?_
    rintro e w' ⟨rfl, rfl⟩
    exact ⟨0, left, _, rfl, by omega, h0, ⟨.inr ⟨T, y, rfl⟩, hs, hl⟩, Keep.refl _ _ _⟩

theorem txt_str {s : List Nat} (h : Sml s) : txt (str s) = enc s.length ++ s := by rw [txt, str_size, bys_str h]

theorem st_txt_inv {B : Nat} {x : Option Nat} {w : World} {gt gp gw : Nat} {left : List Nat} {E : Value} {bl pl wl : List Nat} (h : St B x w gt gp gw left E pl wl) (hI : Inv bl pl left E) :
    Calls Try.prog 15 #[.pointer (some ⟨gt, 0, none⟩), .int .i64 2000] w fun e w' => ∃ (s : ByteArray) (left' : List Nat) (E' : Value), e = .returned (.string s) ∧ s.size ≤ 2000 ∧ St B x w' gt gp gw left' E' pl wl ∧ Inv bl (pl ++ txt s) left' E' ∧ Keep B x w w' := by
  obtain ⟨hE, hs, hl⟩ := hI
  rcases hE with ⟨rfl, hb⟩ | ⟨T, y, rfl⟩
  · refine (st_ttxt h hs (by omega)).mono ?_
    rintro e w' ⟨hk, ⟨s, r, rfl, hle, rfl, hst⟩ | ⟨rfl, T, y, hst⟩⟩
    · rw [List.length_append, List.length_append] at hl
      exact ⟨str s, r, .nilIface, rfl, by rw [str_size]; omega, hst, ⟨.inl ⟨rfl, by rw [hb, txt_str (sml_left (sml_right hs))]; simp⟩, sml_right (sml_right hs), by omega⟩, hk⟩
    · exact ⟨⟨#[]⟩, left, _, rfl, by decide, hst, ⟨.inr ⟨T, y, rfl⟩, hs, hl⟩, hk⟩
  · have h0 := h
    obtain ⟨kt, kp, kw, h1, _⟩ := h
    refine (tape_text_fault h1).mono ?_
    rintro e w' ⟨rfl, rfl⟩
    exact ⟨⟨#[]⟩, left, _, rfl, by decide, h0, ⟨.inr ⟨T, y, rfl⟩, hs, hl⟩, Keep.refl _ _ _⟩

/-- A new block, which is to be kept from now on. -/
theorem St.fresh {B : Nat} {x : Option Nat} {w : World} {gt gp gw : Nat} {left : List Nat} {E : Value} {pl wl : List Nat} (h : St B x w gt gp gw left E pl wl) (o : Obj) : St B (some w.heap.size) (w.alloc o) gt gp gw left E pl wl := by
  obtain ⟨kt, kp, kw, h1, h2, h3, h4, h5, h6, h7, h8, h9⟩ := h
  have hw := (Kp.refl (fun _ => False) w).alloc o
  have l1 := h1.own_lt
  have l2 := h2.own_lt
  have l3 := h3.own_lt
  refine ⟨kt, kp, kw, h1.dis hw (fun _ _ h => h), h2.dis hw (fun _ _ h => h), h3.dis hw (fun _ _ h => h), h4, h5, h6, fun b hb => ⟨(h7 b hb).1, fun e => ?_⟩, by simp; omega, fun j hj => by injection hj with hj; simp; omega⟩
  injection e with e
  rcases hb with hb | hb | hb
  · have := l1 b hb; omega
  · have := l2 b hb; omega
  · have := l3 b hb; omega
theorem St.below {B C : Nat} {x : Option Nat} {w w' : World} {gt gp gw : Nat} {left : List Nat} {E : Value} {pl wl : List Nat} (h : St B x w gt gp gw left E pl wl) (hb : Below C w w') (hC : C = w.heap.size) : St B x w' gt gp gw left E pl wl := by
  subst hC
  obtain ⟨kt, kp, kw, h1, h2, h3, h4, h5, h6, h7, h8, h9⟩ := h
  have hw := Kp.of_below hb (fun _ => False)
  exact ⟨kt, kp, kw, h1.dis hw (fun _ _ h => h), h2.dis hw (fun _ _ h => h), h3.dis hw (fun _ _ h => h), h4, h5, h6, h7, Nat.le_trans h8 hb.size, fun j hj => Nat.lt_of_lt_of_le (h9 j hj) hb.size⟩
theorem St.pen {B : Nat} {x : Option Nat} {w : World} {gt gp gw : Nat} {left : List Nat} {E : Value} {pl wl : List Nat} (h : St B x w gt gp gw left E pl wl) : (∃ k, PenAt w gp k pl) ∧ ∃ k, TapeAt w gt k left E := by
  obtain ⟨kt, kp, kw, h1, h2, h3, _⟩ := h
  exact ⟨⟨kp, h2⟩, kt, h1⟩

/-- A tape just made, and two new pens. -/
theorem st_start {B g : Nat} {k : Option Nat} {w : World} {l : List Nat} (h : TapeAt w g k l .nilIface) (hg : B ≤ g) (hk : ∀ j, k = some j → B ≤ j) (hB : B ≤ w.heap.size) :
    St B none ((w.alloc (.cells #[.slice none 0 0] 27)).alloc (.cells #[.slice none 0 0] 27)) g w.heap.size (w.heap.size + 1) l .nilIface [] [] := by
  have l1 := h.own_lt
  have hp := pen_zero w
  have hq := pen_zero (w.alloc (.cells #[.slice none 0 0] 27))
  rw [World.size_alloc] at hq
  have no : ∀ {S : Nat → Prop}, Dis S (fun _ => False) := fun _ _ h => h
  refine ⟨k, none, none, (h.alloc _).alloc _, hp.dis (((Kp.refl (fun _ => False) _).alloc _)) no, hq, ?_, ?_, ?_, ?_, by simp; omega, fun j hj => by cases hj⟩
  · rintro b hb (rfl | h)
    · have := l1 _ hb; omega
    · cases h
  · rintro b hb (rfl | h)
    · have := l1 _ hb; omega
    · cases h
  · rintro b (rfl | h) (h2 | h2)
    · omega
    · cases h2
    · cases h
    · cases h2
  · rintro b (hb | (rfl | h) | (rfl | h))
    · refine ⟨?_, fun e => by cases e⟩
      rcases hb with rfl | hb
      · exact hg
      · exact hk b hb
    · exact ⟨hB, fun e => by cases e⟩
    · cases h
    · exact ⟨by omega, fun e => by cases e⟩
    · cases h
end Go.Proofs.Ytflejfkdcndjbaa
