/- TapeBack walked: it answers true. -/
import Derived.Test.YtflejfkdcndjbaaJ
import Derived.Deep.CutRange
namespace Go.Proofs.Ytflejfkdcndjbaa
open Go.RowKit

/-- What the law writes for an operation. -/
def opEnc (q : Opr) : List Nat := if q.kind.tmod 2 = 0 then (if max q.n 0 ≤ 4611686018427387903 then enc (max q.n 0).toNat else []) else txt q.s
def opsEnc (l : List Opr) : List Nat := l.flatMap opEnc

theorem opsEnc_take {l : List Opr} {m : Nat} {q : Opr} (h : l[m]? = some q) : opsEnc (l.take (m + 1)) = opsEnc (l.take m) ++ opEnc q := by
  rw [List.take_add_one, h, opsEnc, List.flatMap_append]
  simp [opsEnc]
theorem opsEnc_drop {l : List Opr} {m : Nat} {q : Opr} (h : l[m]? = some q) : opsEnc (l.drop m) = opEnc q ++ opsEnc (l.drop (m + 1)) := by
  have hi := (List.getElem?_eq_some_iff.1 h).1
  have he := (List.getElem?_eq_some_iff.1 h).2
  rw [List.drop_eq_getElem_cons hi, he, opsEnc, List.flatMap_cons]
  rfl
theorem txt_length {s : ByteArray} (h : s.size ≤ 300) : (txt s).length ≤ 309 := by
  have := enc_nine (n := s.size) (by omega)
  rw [txt, List.length_append, bys_length]
  omega
theorem opEnc_length {q : Opr} (h : q.s.size ≤ 300) : (opEnc q).length ≤ 309 := by
  unfold opEnc
  split
  · split
    · have := enc_nine (n := (max q.n 0).toNat) (by omega)
      omega
    · simp
  · exact txt_length h
theorem opEnc_sml (q : Opr) : Sml (opEnc q) := by
  unfold opEnc
  split
  · split
    · exact enc_sml _
    · intro c hc; simp at hc
  · intro c hc
    rw [txt] at hc
    rcases List.mem_append.1 hc with h | h
    · exact enc_sml _ c h
    · exact bys_sml _ c h
theorem opsEnc_sml (l : List Opr) : Sml (opsEnc l) := by
  intro c hc
  simp only [opsEnc, List.mem_flatMap] at hc
  obtain ⟨q, _, hq⟩ := hc
  exact opEnc_sml q c hq
theorem opsEnc_length : ∀ {l : List Opr}, (∀ q ∈ l, q.s.size ≤ 300) → (opsEnc l).length ≤ 309 * l.length
  | [], _ => by simp [opsEnc]
  | q :: l, h => by
    have h1 := opEnc_length (h q (by simp))
    have h2 := opsEnc_length (l := l) (fun x hx => h x (by simp [hx]))
    simp only [opsEnc, List.flatMap_cons, List.length_append, List.length_cons] at h2 ⊢
    omega

def Short (l : List Opr) : Prop := ∀ q ∈ l, q.s.size ≤ 300
theorem Short.snoc {l : List Opr} {m : Nat} {q : Opr} (h : Short (l.take m)) (hq : l[m]? = some q) (hs : q.s.size ≤ 300) : Short (l.take (m + 1)) := by
  rw [List.take_add_one, hq]
  intro x hx
  rcases List.mem_append.1 hx with hx | hx
  · exact h x hx
  · simp at hx; rw [hx]; exact hs

def BRel (W : World) (gt gp gw : Nat) (bl : List Nat) (l : List Opr) (gk : Nat) (i : Value) (wr : World) : Prop :=
  ∃ (m : Nat) (x : Option Nat) (left : List Nat) (E : Value) (pl : List Nat), m + gk = l.length ∧ i = .int .i64 (m : Int) ∧ St W.heap.size x wr gt gp gw left E pl (opsEnc (l.take m)) ∧ Inv bl pl left E ∧ Below W.heap.size W wr ∧ pl.length ≤ 2100 * m ∧ Short (l.take m)

theorem Short.drop {l : List Opr} (h : Short l) (m : Nat) : Short (l.drop m) := fun q hq => h q (List.mem_of_mem_drop hq)
theorem opsEnc_drop_length {l : List Opr} (h : Short l) (hl : l.length ≤ 60) (m : Nat) : (opsEnc (l.drop m)).length ≤ 20000 := by
  have h1 := opsEnc_length (h.drop m)
  rw [List.length_drop] at h1
  omega

def RRel (W : World) (gr : Nat) (l : List Opr) (gk : Nat) (i : Value) (wr : World) : Prop :=
  ∃ (m : Nat) (k : Option Nat), m + gk = l.length ∧ i = .int .i64 (m : Int) ∧ TapeAt wr gr k (opsEnc (l.drop m)) .nilIface ∧ Below W.heap.size W wr

/-- Where the law has written and read back: the second pen is as it was. -/
def Mid (W : World) (gw : Nat) (wl : List Nat) (wc : World) : Prop := (∃ k, PenAt wc gw k wl) ∧ Below W.heap.size W wc

set_option maxRecDepth 100000 in
set_option maxHeartbeats 16000000 in
theorem back_any {w : World} {A Ab : Option Addr} {c cb : Nat} {l : List Opr} {bl : List Nat} (hl : Ops w w.heap.size A l) (hb : Bts w w.heap.size Ab bl) (hs : Sml bl) (hA : Ab = none → cb = 0) (hlen : l.length ≤ 60) (hbl : bl.length ≤ 2000) :
    Calls Try.prog 4 #[.slice A l.length c, .slice Ab bl.length cb] w (Fine w) := by
  have HL := Lib.hid hl
  have HBt := Lib.hid hb
  have HS := Lib.hid hs
  have HA := Lib.hid hA
  clear hl hb hs hA
  go_enter Try.func4, Try.ntmps4
  go_wp2_with fail
  refine (first_true w).mono ?_
  rintro e w1 ⟨rfl, b1⟩
  have B1 := Lib.hid b1
  clear b1
  go_wp2_with fail
  refine (tape_new ((HBt.out.below B1.out).more B1.out.size) HA.out (by omega)).mono ?_
  rintro e w2 ⟨gt, kt, rfl, t2, h2, h3, b2⟩
  have B2 := Lib.hid (B1.out.trans (b2.mono B1.out.size))
  have S2 := Lib.hid (st_start t2 (Nat.le_trans B1.out.size h2) (fun j hj => Nat.le_trans B1.out.size (h3 j hj)) B2.out.size)
  have B3 : Hid (Below w.heap.size w ((w2.alloc (.cells #[.slice none 0 0] 27)).alloc (.cells #[.slice none 0 0] 27))) := (B2.out.alloc B2.out.size _).alloc (by have := B2.out.size; simp; omega) _
  clear t2 h2 h3 b2 B1
  go_wp2_with fail
  obtain ⟨gp, hgp⟩ : ∃ g, g = w2.heap.size := ⟨_, rfl⟩
  rw [← hgp] at S2 ⊢
  obtain ⟨gw, hgw⟩ : ∃ g, g = gp + 1 := ⟨_, rfl⟩
  rw [← hgw] at S2 ⊢
  clear hgp hgw
  go_loopg [32] l.length (fun gk i wr => BRel w gt gp gw bl l gk i wr)
  case atStart => exact ⟨0, none, bl, .nilIface, [], by simp, rfl, S2.out, ⟨.inl ⟨rfl, rfl⟩, HS.out, hbl⟩, B3.out, by simp, fun q hq => by simp at hq⟩
  case round =>
    obtain ⟨m, x, left, E, pl, hmk, hi, hst, hinv, hbel, hpl, hsh⟩ := hrel
    subst hi
    have HSt := Lib.hid hst
    have HI := Lib.hid hinv
    have HBl := Lib.hid hbel
    have HSh := Lib.hid hsh
    clear hst hinv hbel hsh S2 B3 B2
    cases gk with
    | zero =>
      have hml : m = l.length := by omega
      subst hml
      have S1 := HSt.out
      rw [List.take_of_length_le (Nat.le_refl _)] at S1
      obtain ⟨⟨kp, hpen⟩, kt, htp⟩ := S1.pen
      obtain ⟨⟨kw, hwen⟩, _⟩ := S1.swap.pen
      have hd : Kp (fun _ => False) wr wr.drew := (Kp.refl _ _).drew
      have PW := Lib.hid (hwen.kp hd (fun h => h) (fun _ _ h => h))
      have PP := Lib.hid (hpen.kp hd (fun h => h) (fun _ _ h => h))
      have TT := Lib.hid (htp.kp hd (fun h => h) (fun _ _ h => h))
      have HB := Lib.hid HBl.out.drew
      have HShl : Hid (Short l) := by
        have := HSh.out
        rwa [List.take_of_length_le (Nat.le_refl _)] at this
      have HE := Lib.hid HI.out.1
      clear S1 hpen htp hwen hd HSt HI HBl HSh
      go_wp2_with fail
      go_cut [72] from 62 to 72 (fun s72 wc => s72 = .bool false ∧ Mid w gw (opsEnc l) wc)
      case first =>
        by_cases hgood : E = .nilIface ∧ left = []
        · obtain ⟨rfl, rfl⟩ := hgood
          have hbp : pl = bl := by
            rcases HE.out with ⟨_, h⟩ | ⟨T, y, h⟩
            · rw [h, List.append_nil]
            · cases h
          subst hbp
          have q1 := conv_str (HBt.out.below HB.out) cb
          clear HE
          go_region_with (first
            | (go_at_call 16; refine (tape_end_ok TT.out).mono ?_; rintro e w' ⟨rfl, rfl⟩)
            | (go_at_call 12; refine (pen_bytes PP.out (by omega)).mono ?_; rintro e w3 ⟨A3, c3, rfl, h3, -, -, -, -, b3⟩; have q2 := conv_str h3 c3; have q3 := conv_str (HBt.out.below (HB.out.trans (b3.mono HB.out.size))) cb))
          all_goals
            have HM : Hid (Mid w gw (opsEnc l) w3) := ⟨⟨kw, PW.out.kp (Kp.of_below b3 (fun _ => False)) (fun h => h) (fun _ _ h => h)⟩, HB.out.trans (b3.mono HB.out.size)⟩
            clear h3 b3 q1 q2 q3
            go_wp2_with fail
            go_meet
            case rel => exact ⟨rfl, HM.out⟩
        · have hbad : (E = .nilIface ∧ 0 < left.length) ∨ ∃ T x, E = .iface T x := by
            rcases HE.out with ⟨h, _⟩ | h
            · exact .inl ⟨h, List.length_pos_iff.2 (fun h2 => hgood ⟨h, h2⟩)⟩
            · exact .inr h
          have HBd := Lib.hid hbad
          clear hbad hgood HE
          first | go_region_with (go_at_call 16; refine (tape_end_bad TT.out HBd.out).mono ?_; rintro e w3 ⟨⟨T, y, rfl⟩, b3⟩) | fail
          all_goals
            have HM : Hid (Mid w gw (opsEnc l) w3) := ⟨⟨kw, PW.out.kp (Kp.of_below b3 (fun _ => False)) (fun h => h) (fun _ _ h => h)⟩, HB.out.trans (b3.mono HB.out.size)⟩
            clear b3
            go_wp2_with fail
            go_meet
            case rel => exact ⟨rfl, HM.out⟩
      case rest =>
        obtain ⟨rfl, ⟨kw2, hwen2⟩, hbc⟩ := hcut
        have PW2 := Lib.hid hwen2
        have HC := Lib.hid hbc
        have HLen : Hid ((opsEnc l).length ≤ 20000) := by
          have := opsEnc_drop_length HShl.out hlen 0
          rwa [List.drop_zero] at this
        clear hwen2 hbc PW PP TT HB HE HBt HS HA
        go_wp2_with fail
        refine (pen_bytes PW2.out (by have := HLen.out; omega)).mono ?_
        rintro e w4 ⟨A4, c4, rfl, h4, -, h5, -, -, b4⟩
        have L4 := Lib.hid h4
        have N4 := Lib.hid h5
        have B4 := Lib.hid (HC.out.trans (b4.mono HC.out.size))
        clear h4 h5 b4 PW2 HC
        go_wp2_with fail
        refine (tape_new L4.out N4.out (by have := HLen.out; omega)).mono ?_
        rintro e w5 ⟨gr, kr, rfl, t5, g5, -, b5⟩
        have T5 := Lib.hid t5
        have B5 := Lib.hid (B4.out.trans (b5.mono B4.out.size))
        have G5 : Hid (w.heap.size ≤ gr) := Nat.le_trans B4.out.size g5
        clear t5 g5 b5 L4 N4 B4 HLen
        go_wp2_with fail
        go_loopg [78] l.length (fun gk i wr => RRel w gr l gk i wr)
        case atStart => exact ⟨0, kr, by simp, rfl, T5.out, B5.out⟩
        case round =>
          obtain ⟨m, k, hmk, hi, ht, hbel⟩ := hrel
          subst hi
          have HT := Lib.hid ht
          have HBl := Lib.hid hbel
          clear ht hbel T5 B5
          cases gk with
          | zero =>
            have hml : m = l.length := by omega
            subst hml
            have t6 := HT.out
            rw [List.drop_of_length_le (Nat.le_refl _)] at t6
            have T6 : Hid (TapeAt _ gr k [] .nilIface) := t6
            clear t6 HT
            go_wp2_with (go_at_call 16; refine (tape_end_ok T6.out).mono ?_; rintro e w' ⟨rfl, rfl⟩)
            go_ret
            exact ⟨rfl, HBl.out⟩
          | succ j =>
            have hm : m < l.length := by omega
            obtain ⟨q, hq⟩ : ∃ q, l[m]? = some q := ⟨_, List.getElem?_eq_getElem hm⟩
            obtain ⟨b, o, rfl, hlt, hcells⟩ := (HL.out.below HBl.out) (by omega)
            obtain ⟨c1, c2, c3, c4⟩ := hcells m q hq
            have HM := Lib.hid hmk
            have HD := Lib.hid (opsEnc_drop hq)
            have HSm := Lib.hid (opsEnc_sml (l.drop m))
            have HLn := Lib.hid (opsEnc_drop_length HShl.out hlen m)
            have hsz : q.s.size ≤ 300 := HShl.out q (List.mem_of_getElem? hq)
            have HE : Hid (opEnc q = if q.kind.tmod 2 = 0 then (if max q.n 0 ≤ 4611686018427387903 then enc (max q.n 0).toNat else []) else txt q.s) := rfl
            clear hmk hcells hq
            obtain ⟨s, hs⟩ : ∃ s, s = q.s := ⟨_, rfl⟩
            obtain ⟨n, hn⟩ : ∃ n, n = q.n := ⟨_, rfl⟩
            obtain ⟨kd, hkd⟩ : ∃ kd, kd = q.kind := ⟨_, rfl⟩
            obtain ⟨mo, hmo⟩ : ∃ mo, mo = q.most := ⟨_, rfl⟩
            rw [← hkd] at c1 HE
            rw [← hn] at c2 HE
            rw [← hmo] at c3
            rw [← hs] at c4 HE hsz
            clear hs hn hkd hmo
            have HX := Lib.hid (HT.out.alloc (.cells #[.int .i64 kd, .int .i64 n, .int .i64 mo, .string s] 29))
            have HB2 := Lib.hid (HBl.out.alloc HBl.out.size (.cells #[.int .i64 kd, .int .i64 n, .int .i64 mo, .string s] 29))
            have HO := Lib.hid (opAt_new wr kd n mo s)
            have HY : Hid (wr.heap.size ≠ gr) := by have := HT.out.lt; unfold Hid; omega
            obtain ⟨y, hye⟩ : ∃ y, y = wr.heap.size := ⟨_, rfl⟩
            obtain ⟨w2, hw2⟩ : ∃ w2, w2 = wr.alloc (.cells #[.int .i64 kd, .int .i64 n, .int .i64 mo, .string s] 29) := ⟨_, rfl⟩
            clear HT HBl
            by_cases hk0 : kd.tmod 2 = 0
            · have HE2 := HE.out
              rw [if_pos hk0] at HE2
              have HE := Lib.hid HE2
              clear HE2
              by_cases hr : max n 0 ≤ 4611686018427387903
              · obtain ⟨M, hM⟩ : ∃ M : Nat, max n 0 = (M : Int) := ⟨(max n 0).toNat, by omega⟩
                have HE3 := HE.out
                rw [if_pos hr, hM, Int.toNat_natCast] at HE3
                have HD3 := HD.out
                rw [HE3] at HD3
                have HD4 := Lib.hid HD3
                have hM2 : (M : Int) ≤ 4611686018427387903 := by omega
                have hnM : n = (M : Int) ∨ (n < 0 ∧ M = 0) := by omega
                clear HE3 HD3 HE hr hM
                have go : ∀ (W3 : World) (e : Ending), TNum w2 gr k (enc M ++ opsEnc (l.drop (m + 1))) 4611686018427387903 e W3 → e = .returned (.int .i64 (M : Int)) ∧ TapeAt W3 gr k (opsEnc (l.drop (m + 1))) .nilIface := fun _ _ h => h.hit hM2 (by omega)
                have GO := Lib.hid go
                clear go
                rcases hnM with rfl | ⟨hneg, rfl⟩
                · have hnn : ¬ ((M : Int) < 0) := by omega
                  go_wp2_with fail
                  rw [← hw2] at HX HB2 ⊢
                  clear hw2 hye c1 c2 c3 c4 hlt
                  refine (tape_number (most := 4611686018427387903) HX.out HSm.out (by have := HLn.out; omega)).mono ?_
                  intro e w3 h3
                  have B3 := Lib.hid (HB2.out.trans (h3.below G5.out HB2.out.size))
                  rw [HD4.out] at h3
                  obtain ⟨rfl, t3⟩ := GO.out _ _ h3
                  have T3 := Lib.hid t3
                  clear h3 t3 HX HB2 GO
                  go_wp2_with fail
                  go_roundg j
                  case measure => omega
                  case rel => exact ⟨m + 1, k, by have := HM.out; omega, by go_num, T3.out, B3.out⟩
                · go_wp2_with fail
                  rw [← hw2] at HX HB2 ⊢
                  clear hw2 hye c1 c2 c3 c4 hlt
                  refine (tape_number (most := 4611686018427387903) HX.out HSm.out (by have := HLn.out; omega)).mono ?_
                  intro e w3 h3
                  have B3 := Lib.hid (HB2.out.trans (h3.below G5.out HB2.out.size))
                  rw [HD4.out] at h3
                  obtain ⟨rfl, t3⟩ := GO.out _ _ h3
                  have T3 := Lib.hid t3
                  clear h3 t3 HX HB2 GO
                  go_wp2_with fail
                  go_roundg j
                  case measure => omega
                  case rel => exact ⟨m + 1, k, by have := HM.out; omega, by go_num, T3.out, B3.out⟩
              · have hbig : 4611686018427387903 < n := by omega
                have HE3 := HE.out
                rw [if_neg hr] at HE3
                have HD3 := HD.out
                rw [HE3, List.nil_append] at HD3
                have HD4 := Lib.hid HD3
                clear HE3 HD3 HE hr
                go_wp2_with fail
                go_roundg j
                case measure => omega
                case rel => exact ⟨m + 1, k, by have := HM.out; omega, by go_num, by rw [← HD4.out]; exact HX.out, HB2.out⟩
            · have HE2 := HE.out
              rw [if_neg hk0, txt] at HE2
              have HD3 := HD.out
              rw [HE2, ← bys_length, List.append_assoc] at HD3
              have HD4 := Lib.hid HD3
              have hbs : ((bys s).length : Int) ≤ 300 := by rw [bys_length]; omega
              have go : ∀ (W2 W3 : World) (e : Ending), TTxt W2 gr k (enc (bys s).length ++ (bys s ++ opsEnc (l.drop (m + 1)))) 300 e W3 → e = .returned (.string s) ∧ TapeAt W3 gr k (opsEnc (l.drop (m + 1))) .nilIface := fun _ _ _ h => by
                have := h.hit hbs (by omega)
                rwa [str_bys] at this
              have GO := Lib.hid go
              clear HE2 HD3 HE hbs go
              go_wp2_with fail
              rw [← hye] at HO HY ⊢
              rw [← hw2] at HX HB2 HO ⊢
              clear hw2 hye c1 c2 c3 c4 hlt
              obtain ⟨d1, d2, d3, d4⟩ := HO.out
              have TD : Hid (TapeAt w2.drew gr k (opsEnc (l.drop m)) .nilIface) := HX.out.kp (S := fun _ => False) (Kp.refl _ _).drew (fun h => h) (fun _ _ h => h)
              have BD := Lib.hid HB2.out.drew
              go_region_with (go_at_call 15; refine (tape_text (most := 300) TD.out HSm.out (by have := HLn.out; omega)).mono ?_; intro e w3 h3; have B3 := Lib.hid (BD.out.trans (h3.below G5.out BD.out.size)); have f4 : w3.cell? ⟨y, 3, none⟩ = some (.string s) := h3.1.cell (p := ⟨y, 3, none⟩) d4 HY.out; rw [HD4.out] at h3; obtain ⟨rfl, t3⟩ := GO.out _ _ _ h3; have T3 := Lib.hid t3; clear h3 t3)
              all_goals
                clear d1 d2 d3 d4 f4
                go_wp2_with fail
                go_roundg j
                case measure => omega
                case rel => exact ⟨m + 1, k, by have := HM.out; omega, by go_num, T3.out, B3.out⟩
    | succ j =>
      have hm : m < l.length := by omega
      obtain ⟨q, hq⟩ : ∃ q, l[m]? = some q := ⟨_, List.getElem?_eq_getElem hm⟩
      obtain ⟨b, o, rfl, hlt, hcells⟩ := (HL.out.below HBl.out) (by omega)
      obtain ⟨c1, c2, c3, c4⟩ := hcells m q hq
      have HM := Lib.hid hmk
      have HQ := Lib.hid hq
      have HT := Lib.hid (opsEnc_take hq)
      have HE : Hid (opEnc q = if q.kind.tmod 2 = 0 then (if max q.n 0 ≤ 4611686018427387903 then enc (max q.n 0).toNat else []) else txt q.s) := rfl
      have HWl : Hid ((opsEnc (l.take m)).length ≤ 309 * m) := by
        have := opsEnc_length HSh.out
        rw [List.length_take] at this
        exact Nat.le_trans this (Nat.mul_le_mul_left _ (Nat.min_le_left _ _))
      clear hmk hcells hq
      obtain ⟨s, hs⟩ : ∃ s, s = q.s := ⟨_, rfl⟩
      obtain ⟨n, hn⟩ : ∃ n, n = q.n := ⟨_, rfl⟩
      obtain ⟨kd, hkd⟩ : ∃ kd, kd = q.kind := ⟨_, rfl⟩
      obtain ⟨mo, hmo⟩ : ∃ mo, mo = q.most := ⟨_, rfl⟩
      rw [← hkd] at c1 HE
      rw [← hn] at c2 HE
      rw [← hmo] at c3
      rw [← hs] at c4 HE
      have HQs := Lib.hid hs
      clear hs hn hkd hmo
      by_cases h300 : 300 < s.size
      · go_wp2_with fail
        go_ret
        exact ⟨rfl, HBl.out.alloc HBl.out.size _⟩
      · have HX := Lib.hid (HSt.out.fresh (.cells #[.int .i64 kd, .int .i64 n, .int .i64 mo, .string s] 29))
        have HB2 := Lib.hid (HBl.out.alloc HBl.out.size (.cells #[.int .i64 kd, .int .i64 n, .int .i64 mo, .string s] 29))
        have HO := Lib.hid (opAt_new wr kd n mo s)
        obtain ⟨y, hye⟩ : ∃ y, y = wr.heap.size := ⟨_, rfl⟩
        obtain ⟨w2, hw2⟩ : ∃ w2, w2 = wr.alloc (.cells #[.int .i64 kd, .int .i64 n, .int .i64 mo, .string s] 29) := ⟨_, rfl⟩
        clear HSt HBl
        go_wp2_with fail
        all_goals
          rw [← hye] at HX HO ⊢
          rw [← hw2] at HX HO HB2 ⊢
          clear hw2 hye c1 c2 c3 c4 hlt
        · have hk0 : kd.tmod 2 = 0 := by
            have h := ‹(kd.tmod 2 == 0) = true›
            simpa using h
          have HE2 := HE.out
          rw [if_pos hk0] at HE2
          have HE := Lib.hid HE2
          clear HE2 hk0
          refine (st_num_inv HX.out HI.out).mono ?_
          rintro e w3 ⟨N, left', E', rfl, hN, hst, hinv, hk⟩
          have S3 := Lib.hid hst
          have I3 := Lib.hid hinv
          have K3 := Lib.hid hk
          have HN9 : Hid ((enc N).length ≤ 9) := enc_nine (by omega)
          clear hst hinv hk
          go_wp2_with fail
          refine (st_pnum S3.out hN (by omega)).mono ?_
          rintro e w4 ⟨rfl, hst, hk⟩
          have S4 := Lib.hid hst
          have K4 := Lib.hid (K3.out.trans hk)
          obtain ⟨d1, d2, d3, d4⟩ := HO.out.keep (K4.out.2 y rfl)
          clear hst hk S3 K3
          by_cases hneg : n < 0
          rotate_left
          · have h0 : 0 ≤ n := by omega
            have hmax : max n 0 = n := by omega
            rw [hmax] at HE
            clear hmax
            go_wp2_with fail
            by_cases hr : n ≤ 4611686018427387903
            · obtain ⟨M, rfl⟩ := Int.eq_ofNat_of_zero_le h0
              refine (st_wnum S4.out (n := M) (by omega) (by have := HWl.out; omega)).mono ?_
              rintro e w5 ⟨rfl, hst, hk⟩
              have S5 := Lib.hid hst
              have K5 := Lib.hid (K4.out.trans hk)
              have HE3 := HE.out
              rw [if_pos hr, Int.toNat_natCast] at HE3
              have HE4 := Lib.hid HE3
              clear hst hk S4 K4 HE3 HE hr
              go_wp2_with fail
              go_roundg j
              case measure => omega
              case rel => exact ⟨m + 1, some y, left', E', pl ++ enc N, by have := HM.out; omega, by go_num, by rw [HT.out, HE4.out]; exact S5.out, I3.out, HB2.out.trans K5.out.1, by have := HN9.out; rw [List.length_append]; omega, HSh.out.snoc HQ.out (by rw [← HQs.out]; omega)⟩
            · refine (pen_refuse w4 gw (.inr (by omega))).mono ?_
              rintro e w5 ⟨rfl, rfl⟩
              have HE3 := HE.out
              rw [if_neg hr] at HE3
              have HE4 := Lib.hid HE3
              clear HE3 HE hr
              go_wp2_with fail
              go_roundg j
              case measure => omega
              case rel => exact ⟨m + 1, some y, left', E', pl ++ enc N, by have := HM.out; omega, by go_num, by rw [HT.out, HE4.out, List.append_nil]; exact S4.out, I3.out, HB2.out.trans K4.out.1, by have := HN9.out; rw [List.length_append]; omega, HSh.out.snoc HQ.out (by rw [← HQs.out]; omega)⟩
          · have hmax : max n 0 = ((0 : Nat) : Int) := by omega
            rw [hmax] at HE
            clear hmax
            go_wp2_with fail
            refine (st_wnum S4.out (n := 0) (by omega) (by have := HWl.out; omega)).mono ?_
            rintro e w5 ⟨rfl, hst, hk⟩
            have S5 := Lib.hid hst
            have K5 := Lib.hid (K4.out.trans hk)
            have HE3 := HE.out
            rw [if_pos (by omega), Int.toNat_natCast] at HE3
            have HE4 := Lib.hid HE3
            clear hst hk S4 K4 HE3 HE
            go_wp2_with fail
            go_roundg j
            case measure => omega
            case rel => exact ⟨m + 1, some y, left', E', pl ++ enc N, by have := HM.out; omega, by go_num, by rw [HT.out, HE4.out]; exact S5.out, I3.out, HB2.out.trans K5.out.1, by have := HN9.out; rw [List.length_append]; omega, HSh.out.snoc HQ.out (by rw [← HQs.out]; omega)⟩
        · have hk0 : ¬ kd.tmod 2 = 0 := by
            have h := ‹(kd.tmod 2 == 0) = false›
            simpa using h
          have HE2 := HE.out
          rw [if_neg hk0] at HE2
          have HE := Lib.hid HE2
          clear HE2 hk0
          refine (st_txt_inv HX.out HI.out).mono ?_
          rintro e w3 ⟨ts, left', E', rfl, hN, hst, hinv, hk⟩
          have S3 := Lib.hid hst
          have I3 := Lib.hid hinv
          have K3 := Lib.hid hk
          have HN9 : Hid ((txt ts).length ≤ 2009) := by
            have := enc_nine (n := ts.size) (by omega)
            show (txt ts).length ≤ 2009
            rw [txt, List.length_append, bys_length]
            omega
          clear hst hinv hk
          go_wp2_with fail
          refine (st_ptxt S3.out ts (by omega) (by omega)).mono ?_
          rintro e w4 ⟨rfl, hst, hk⟩
          have S4 := Lib.hid hst
          have K4 := Lib.hid (K3.out.trans hk)
          obtain ⟨d1, d2, d3, d4⟩ := HO.out.keep (K4.out.2 y rfl)
          clear hst hk S3 K3
          go_wp2_with fail
          refine (st_wtxt S4.out s (by omega) (by have := HWl.out; omega)).mono ?_
          rintro e w5 ⟨rfl, hst, hk⟩
          have S5 := Lib.hid hst
          have K5 := Lib.hid (K4.out.trans hk)
          clear hst hk S4 K4
          go_wp2_with fail
          go_roundg j
          case measure => omega
          case rel => exact ⟨m + 1, some y, left', E', pl ++ txt ts, by have := HM.out; omega, by go_num, by rw [HT.out, HE.out]; exact S5.out, I3.out, HB2.out.trans K5.out.1, by have := HN9.out; rw [List.length_append]; omega, HSh.out.snoc HQ.out (by rw [← HQs.out]; omega)⟩

theorem back_big {w : World} {A Ab : Option Addr} {n c nb cb : Nat} (hn : n ≤ maxLen) (hb : nb ≤ maxLen) (h : 2000 < nb ∨ 60 < n) : Calls Try.prog 4 #[.slice A n c, .slice Ab nb cb] w (Fine w) := by
  unfold maxLen at hn hb
  have hn2 : (n : Int) ≤ 9223372036854775807 := by omega
  have hb2 : (nb : Int) ≤ 9223372036854775807 := by omega
  by_cases h2 : 2000 < nb
  · clear h hn hb
    go_enter Try.func4, Try.ntmps4
    go_wp2_with fail
    refine (first_true w).mono ?_
    rintro e w1 ⟨rfl, b1⟩
    have B1 := Lib.hid b1
    clear b1
    go_wp2_with fail
    go_ret
    exact ⟨rfl, B1.out⟩
  · have h6 : 60 < n := by omega
    have h7 : nb ≤ 2000 := by omega
    clear h hn hb h2
    go_enter Try.func4, Try.ntmps4
    go_wp2_with fail
    refine (first_true w).mono ?_
    rintro e w1 ⟨rfl, b1⟩
    have B1 := Lib.hid b1
    clear b1
    go_wp2_with fail
    go_ret
    exact ⟨rfl, B1.out⟩
end Go.Proofs.Ytflejfkdcndjbaa
