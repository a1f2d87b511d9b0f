/- TapeWrites walked: it answers true. -/
import Derived.Test.YtflejfkdcndjbaaH
import Derived.Test.YtflejfkdcndjbaaD
namespace Go.Proofs.Ytflejfkdcndjbaa
open Go.RowKit

structure Opr where
  kind : Int
  n : Int
  most : Int
  s : ByteArray

/-- A slice's operations, as they lie below block B. -/
def Ops (w : World) (B : Nat) (A : Option Addr) (l : List Opr) : Prop :=
  0 < l.length → ∃ b o, A = some ⟨b, o, none⟩ ∧ b < B ∧ ∀ (k : Nat) (q : Opr), l[k]? = some q →
    w.cell? ⟨b, o + k * 4, none⟩ = some (.int .i64 q.kind) ∧ w.cell? ⟨b, o + k * 4 + 1, none⟩ = some (.int .i64 q.n) ∧ w.cell? ⟨b, o + k * 4 + 2, none⟩ = some (.int .i64 q.most) ∧ w.cell? ⟨b, o + k * 4 + 3, none⟩ = some (.string q.s)
theorem Ops.below {w w' : World} {B : Nat} {A : Option Addr} {l : List Opr} (h : Ops w B A l) (hb : Below B w w') : Ops w' B A l := fun hp => by
  obtain ⟨b, o, hA, hlt, hc⟩ := h hp
  refine ⟨b, o, hA, hlt, fun k q hk => ?_⟩
  obtain ⟨h1, h2, h3, h4⟩ := hc k q hk
  exact ⟨(hb.cell (p := ⟨b, _, none⟩) hlt).trans h1, (hb.cell (p := ⟨b, _, none⟩) hlt).trans h2, (hb.cell (p := ⟨b, _, none⟩) hlt).trans h3, (hb.cell (p := ⟨b, _, none⟩) hlt).trans h4⟩

/-- A pen whose blocks all lie from B on, and none is x. -/
def PenX (B x : Nat) (w : World) (g : Nat) (l : List Nat) : Prop := ∃ k, PenAt w g k l ∧ B ≤ g ∧ (∀ j, k = some j → B ≤ j) ∧ x ≠ g ∧ k ≠ some x
theorem PenX.f {B x : Nat} {w : World} {g : Nat} {l : List Nat} (h : PenX B x w g l) : PenF B w g l := by
  obtain ⟨k, h1, h2, h3, _⟩ := h
  exact ⟨k, h1, h2, h3⟩
theorem PenF.x {B : Nat} {w : World} {g : Nat} {l : List Nat} (h : PenF B w g l) (o : Obj) : PenX B w.heap.size (w.alloc o) g l := by
  obtain ⟨k, h1, h2, h3⟩ := h
  have hg := h1.lt
  have hk := h1.row_lt
  exact ⟨k, h1.kp (S := fun _ => False) ((Kp.refl _ _).alloc _) (fun h => h) (fun _ _ h => h), h2, h3, by omega, fun e => by have := hk _ e; omega⟩
theorem PenX.below {B C x : Nat} {w w' : World} {g : Nat} {l : List Nat} (h : PenX B x w g l) (hb : Below C w w') (hC : C = w.heap.size) : PenX B x w' g l := by
  subst hC
  obtain ⟨k, hp, h2⟩ := h
  exact ⟨k, hp.kp (Kp.of_below hb (fun _ => False)) (fun h => h) (fun _ _ h => h), h2⟩

/-- It answers v; the pen has written l; nothing below B has turned, nor has block x. -/
def WritX (B x : Nat) (v : Value) (g : Nat) (l : List Nat) (w : World) (e : Ending) (w' : World) : Prop := e = .returned v ∧ PenX B x w' g l ∧ Below B w w' ∧ w'.heap[x]? = w.heap[x]?

theorem Wrote.writX {B x : Nat} {w w' : World} {g : Nat} {k : Option Nat} {l : List Nat} {v : Value} (h : Wrote w g k l w') (hg : B ≤ g) (hk : ∀ j, k = some j → B ≤ j) (hB : B ≤ w.heap.size) (hxg : x ≠ g) (hkx : k ≠ some x) (hx : x < w.heap.size) : WritX B x v g l w (.returned v) w' := by
  obtain ⟨k', hp, hk', hkp⟩ := h
  refine ⟨rfl, ⟨k', hp, hg, fun j hj => ?_, hxg, fun e => ?_⟩, hkp.below hB ?_, hkp.block x hx ?_⟩
  · rcases hk' with rfl | ⟨i, hi, hle⟩
    · exact hk j hj
    · rw [hj] at hi; injection hi with hi; omega
  · rcases hk' with rfl | ⟨i, hi, hle⟩
    · exact hkx e
    · rw [e] at hi; injection hi with hi; omega
  · rintro b (rfl | hb)
    · exact hg
    · exact hk b hb
  · rintro (h | h)
    · exact hxg h
    · exact hkx h

theorem penX_number {B x : Nat} {w : World} {g : Nat} {l : List Nat} {n : Nat} (h : PenX B x w g l) (hB : B ≤ w.heap.size) (hx : x < w.heap.size) (hn : n ≤ 4611686018427387903) (hl : l.length ≤ 900000) :
    Calls Try.prog 6 #[.pointer (some ⟨g, 0, none⟩), .int .i64 (n : Int)] w (WritX B x (.bool true) g (l ++ enc n) w) := by
  obtain ⟨k, hp, hg, hk, h1, h2⟩ := h
  exact (pen_number hp hn hl).mono fun e w' ⟨he, hw⟩ => by subst he; exact hw.writX hg hk hB h1 h2 hx
theorem penX_text {B x : Nat} {w : World} {g : Nat} {l : List Nat} (h : PenX B x w g l) (hB : B ≤ w.heap.size) (hx : x < w.heap.size) (s : ByteArray) (hs : s.size ≤ 3000) (hl : l.length ≤ 800000) :
    Calls Try.prog 10 #[.pointer (some ⟨g, 0, none⟩), .string s] w (WritX B x (.tuple #[]) g (l ++ txt s) w) := by
  obtain ⟨k, hp, hg, hk, h1, h2⟩ := h
  exact (pen_text hp hl s hs).mono fun e w' ⟨he, hw⟩ => by subst he; exact hw.writX hg hk hB h1 h2 hx
theorem penX_flag {B x : Nat} {w : World} {g : Nat} {l : List Nat} (h : PenX B x w g l) (hB : B ≤ w.heap.size) (hx : x < w.heap.size) (b : Bool) (hl : l.length ≤ 900000) :
    Calls Try.prog 8 #[.pointer (some ⟨g, 0, none⟩), .bool b] w (WritX B x (.tuple #[]) g (l ++ flg b) w) := by
  obtain ⟨k, hp, hg, hk, h1, h2⟩ := h
  exact (pen_flag hp hl b).mono fun e w' ⟨he, hw⟩ => by subst he; exact hw.writX hg hk hB h1 h2 hx

/-- The law's variable o, in block x. -/
def OpAt (w : World) (x : Nat) (kd n mo : Int) (s : ByteArray) : Prop :=
  w.cell? ⟨x, 0, none⟩ = some (.int .i64 kd) ∧ w.cell? ⟨x, 1, none⟩ = some (.int .i64 n) ∧ w.cell? ⟨x, 2, none⟩ = some (.int .i64 mo) ∧ w.cell? ⟨x, 3, none⟩ = some (.string s)
theorem OpAt.keep {w w' : World} {x : Nat} {kd n mo : Int} {s : ByteArray} (h : OpAt w x kd n mo s) (hx : w'.heap[x]? = w.heap[x]?) : OpAt w' x kd n mo s :=
  ⟨(World.cell?_of_block (w := w) (a := ⟨x, 0, none⟩) hx).trans h.1, (World.cell?_of_block (w := w) (a := ⟨x, 1, none⟩) hx).trans h.2.1, (World.cell?_of_block (w := w) (a := ⟨x, 2, none⟩) hx).trans h.2.2.1, (World.cell?_of_block (w := w) (a := ⟨x, 3, none⟩) hx).trans h.2.2.2⟩
theorem opAt_new (w : World) (kd n mo : Int) (s : ByteArray) : OpAt (w.alloc (.cells #[.int .i64 kd, .int .i64 n, .int .i64 mo, .string s] 29)) w.heap.size kd n mo s := by
  refine ⟨?_, ?_, ?_, ?_⟩ <;> simp

def WRel (W : World) (g : Nat) (l : List Opr) (gk : Nat) (sv i : Value) (wr : World) : Prop :=
  ∃ (m : Nat) (ys : List Nat), m + gk = l.length ∧ m ≤ 60 ∧ i = .int .i64 (m : Int) ∧ sv = .string (str ys) ∧ ys.length ≤ 400 * m ∧ PenF W.heap.size wr g ys ∧ Below W.heap.size W wr

set_option maxRecDepth 100000 in
set_option maxHeartbeats 4000000 in
theorem writes_any {w : World} {A : Option Addr} {c : Nat} {l : List Opr} (hl : Ops w w.heap.size A l) (hlen : l.length ≤ maxLen) :
    Calls Try.prog 3 #[.slice A l.length c] w (Fine w) := by
  have HL := Lib.hid hl
  clear hl
  have hlen2 : (l.length : Int) ≤ 9223372036854775807 := by unfold maxLen at hlen; omega
  clear hlen
  go_enter Try.func3, Try.ntmps3
  go_wp2_with fail
  refine (first_true w).mono ?_
  rintro e w1 ⟨rfl, b1⟩
  have HB := Lib.hid b1
  have HP := Lib.hid (penF_zero (w := w1) b1.size)
  clear b1
  go_wp2_with fail
  obtain ⟨g, hg⟩ : ∃ g, g = w1.heap.size := ⟨_, rfl⟩
  rw [← hg] at HP ⊢
  clear hg
  go_loopg [5, 15] l.length (fun gk sv i wr => WRel w g l gk sv i wr)
  case atStart => exact ⟨0, [], by simp, by omega, rfl, rfl, by simp, HP.out, HB.out.alloc HB.out.size _⟩
  case round =>
    obtain ⟨m, ys, hmk, hm60, hi, hsv, hys, hpen, hb⟩ := hrel
    subst hi hsv
    have HPen := Lib.hid hpen
    have HBl := Lib.hid hb
    clear hpen hb HP
    cases gk with
    | zero =>
      go_wp2_with fail
      refine (penF_bytes HPen.out (by omega)).mono ?_
      rintro e w2 ⟨A2, c2, rfl, h1, -, -, -, -, b1⟩
      have q2 := conv_str h1 c2
      have B2 := Lib.hid (HBl.out.trans (b1.mono HBl.out.size))
      clear h1 b1 HPen HBl
      go_wp2_with (go_at_call 12; refine (nil_bytes _).mono ?_; rintro e w' ⟨rfl, rfl⟩)
      go_ret
      exact ⟨rfl, B2.out⟩
    | succ j =>
      have hm : m < l.length := by omega
      obtain ⟨q, hq⟩ : ∃ q, l[m]? = some q := ⟨_, List.getElem?_eq_getElem hm⟩
      obtain ⟨b, o, rfl, hlt, hcells⟩ := (HL.out.below HBl.out) (by omega)
      obtain ⟨c1, c2, c3, c4⟩ := hcells m q hq
      have HM := Lib.hid hmk
      clear hq hmk hcells
      by_cases h60 : m = 60
      · subst h60
        go_wp2_with fail
        go_ret
        exact ⟨rfl, HBl.out.alloc HBl.out.size _⟩
      · have h60' : m < 60 := by omega
        obtain ⟨s, hs⟩ : ∃ s, s = q.s := ⟨_, rfl⟩
        obtain ⟨n, hn⟩ : ∃ n, n = q.n := ⟨_, rfl⟩
        obtain ⟨kd, hkd⟩ : ∃ kd, kd = q.kind := ⟨_, rfl⟩
        obtain ⟨mo, hmo⟩ : ∃ mo, mo = q.most := ⟨_, rfl⟩
        rw [← hkd] at c1
        rw [← hn] at c2
        rw [← hmo] at c3
        rw [← hs] at c4
        clear hs hn hkd hmo h60
        by_cases h300 : 300 < s.size
        · go_wp2_with fail
          go_ret
          exact ⟨rfl, HBl.out.alloc HBl.out.size _⟩
        · have HPX := Lib.hid (HPen.out.x (.cells #[.int .i64 kd, .int .i64 n, .int .i64 mo, .string s] 29))
          have HB2 := Lib.hid (HBl.out.alloc HBl.out.size (.cells #[.int .i64 kd, .int .i64 n, .int .i64 mo, .string s] 29))
          have HO := Lib.hid (opAt_new wr kd n mo s)
          have HX : Hid (wr.heap.size < (wr.alloc (.cells #[.int .i64 kd, .int .i64 n, .int .i64 mo, .string s] 29)).heap.size) := by unfold Hid; simp
          obtain ⟨x, hxe⟩ : ∃ x, x = wr.heap.size := ⟨_, rfl⟩
          obtain ⟨w2, hw2⟩ : ∃ w2, w2 = wr.alloc (.cells #[.int .i64 kd, .int .i64 n, .int .i64 mo, .string s] 29) := ⟨_, rfl⟩
          have hyl : ys.length ≤ 24000 := by omega
          clear HPen HBl
          go_wp2_with fail
          all_goals
            rw [← hxe] at HPX HO HX ⊢
            rw [← hw2] at HPX HO HX HB2 ⊢
            clear hw2 hxe c1 c2 c3 c4 hlt
          · have hn0 : 0 ≤ n := by omega
            by_cases hr : n ≤ 4611686018427387903
            · obtain ⟨N, rfl⟩ := Int.eq_ofNat_of_zero_le hn0
              have hN : N ≤ 4611686018427387903 := by omega
              refine (penX_number HPX.out HB2.out.size HX.out hN (by omega)).mono ?_
              rintro e w3 ⟨rfl, hp3, hb3, hx3⟩
              obtain ⟨d1, d2, d3, d4⟩ := HO.out.keep hx3
              have P3 := Lib.hid hp3
              have B3 := Lib.hid (HB2.out.trans hb3)
              clear hp3 hb3 hx3 HPX HB2 HO HX
              go_wp2_with (go_at_call 6; refine (nil_number _ _).mono ?_; rintro e w' ⟨rfl, rfl⟩)
              refine (ref_number N hN w3).mono ?_
              rintro e w4 ⟨rfl, hb4⟩
              have P4 := Lib.hid (P3.out.below hb4 rfl)
              have B4 := Lib.hid (B3.out.trans (hb4.mono B3.out.size))
              have hs9 := enc_str_size N hN
              have hy2 : (str ys).size ≤ 1000000 := by rw [str_size]; omega
              have q4 : ∀ W : World, (Op.stringOp .add (str ys) (str (enc N))).run Try.prog W = .ok (.string (str (ys ++ enc N))) W := fun W => by rw [← str_append]; exact add_str W hy2 (by omega)
              have HE : Hid ((enc N).length ≤ 9) := by rw [str_size] at hs9; exact hs9
              clear hb4 d1 d2 d3 d4 hs9 hy2 P3 B3
              go_wp2_with fail
              go_roundg j
              case measure => omega
              case rel => exact ⟨m + 1, ys ++ enc N, by have := HM.out; omega, by omega, by go_num, rfl, by have := HE.out; rw [List.length_append]; omega, P4.out.f, B4.out⟩
            · have hr2 : 4611686018427387903 < n := by omega
              refine (pen_refuse w2 g (.inr hr2)).mono ?_
              rintro e w3 ⟨rfl, rfl⟩
              obtain ⟨d1, d2, d3, d4⟩ := HO.out
              clear HO HX
              go_wp2_with (go_at_call 6; refine (nil_number _ _).mono ?_; rintro e w' ⟨rfl, rfl⟩)
              go_roundg j
              case measure => omega
              case rel => exact ⟨m + 1, ys, by have := HM.out; omega, by omega, by go_num, rfl, by omega, HPX.out.f, HB2.out⟩
          · have hr2 : n < 0 := by omega
            refine (pen_refuse w2 g (.inl hr2)).mono ?_
            rintro e w3 ⟨rfl, rfl⟩
            obtain ⟨d1, d2, d3, d4⟩ := HO.out
            clear HO HX
            go_wp2_with (go_at_call 6; refine (nil_number _ _).mono ?_; rintro e w' ⟨rfl, rfl⟩)
            go_roundg j
            case measure => omega
            case rel => exact ⟨m + 1, ys, by have := HM.out; omega, by omega, by go_num, rfl, by omega, HPX.out.f, HB2.out⟩
          · refine (penX_flag HPX.out HB2.out.size HX.out _ (by omega)).mono ?_
            rintro e w3 ⟨rfl, hp3, hb3, hx3⟩
            obtain ⟨d1, d2, d3, d4⟩ := HO.out.keep hx3
            have P3 := Lib.hid hp3
            have B3 := Lib.hid (HB2.out.trans hb3)
            clear hp3 hb3 hx3 HPX HB2 HO HX
            go_wp2_with (go_at_call 8; refine (nil_flag _ _).mono ?_; rintro e w' ⟨rfl, rfl⟩)
            refine (ref_flag w3 _).mono ?_
            rintro e w4 ⟨rfl, rfl⟩
            have hy2 : (str ys).size ≤ 1000000 := by rw [str_size]; omega
            have q4 : ∀ (W : World) (b : Bool), (Op.stringOp .add (str ys) (str (flg b))).run Try.prog W = .ok (.string (str (ys ++ flg b))) W := fun W b => by rw [← str_append]; exact add_str W hy2 (by rw [str_size]; simp [flg])
            clear d1 d2 d3 d4 hy2
            go_wp2_with fail
            go_roundg j
            case measure => omega
            case rel => exact ⟨m + 1, ys ++ flg _, by have := HM.out; omega, by omega, by go_num, rfl, by rw [List.length_append]; simp [flg]; omega, P3.out.f, B3.out⟩
          · refine (penX_text HPX.out HB2.out.size HX.out s (by omega) (by omega)).mono ?_
            rintro e w3 ⟨rfl, hp3, hb3, hx3⟩
            obtain ⟨d1, d2, d3, d4⟩ := HO.out.keep hx3
            have P3 := Lib.hid hp3
            have B3 := Lib.hid (HB2.out.trans hb3)
            clear hp3 hb3 hx3 HPX HB2 HO HX
            go_wp2_with (go_at_call 10; refine (nil_text _ _).mono ?_; rintro e w' ⟨rfl, rfl⟩)
            refine (ref_text w3 s (by omega)).mono ?_
            rintro e w4 ⟨rfl, hb4⟩
            have P4 := Lib.hid (P3.out.below hb4 rfl)
            have B4 := Lib.hid (B3.out.trans (hb4.mono B3.out.size))
            have hts : (txt s).length ≤ 309 := by
              have := enc_nine (n := s.size) (by omega)
              rw [txt, List.length_append, bys_length]; omega
            have hy2 : (str ys).size ≤ 1000000 := by rw [str_size]; omega
            have q4 : ∀ W : World, (Op.stringOp .add (str ys) (str (txt s))).run Try.prog W = .ok (.string (str (ys ++ txt s))) W := fun W => by rw [← str_append]; exact add_str W hy2 (by rw [str_size]; omega)
            have HE := Lib.hid hts
            clear hb4 d1 d2 d3 d4 hts hy2 P3 B3
            go_wp2_with fail
            go_roundg j
            case measure => omega
            case rel => exact ⟨m + 1, ys ++ txt s, by have := HM.out; omega, by omega, by go_num, rfl, by have := HE.out; rw [List.length_append]; omega, P4.out.f, B4.out⟩
end Go.Proofs.Ytflejfkdcndjbaa
