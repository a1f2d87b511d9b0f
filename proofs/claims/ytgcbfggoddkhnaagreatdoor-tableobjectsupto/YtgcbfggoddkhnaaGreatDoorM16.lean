/- Lemmas for the law: Yd, Ye, Yf, Yg, Yh, Yi. -/
import Derived.Test.YtgcbfggoddkhnaaGreatDoorM15
namespace Go.Proofs.YtgcbfggoddkhnaaGreatDoor
open Go.RowKit
noncomputable def addR (T : TT) (p : List Int) (o : Ob) (q : Int) : Int × Int := match T (Pa.zText p) with
 | none => (-1, 30)
 | some c => if unfitR c o q = 0 then (if roomR T p c o q = 0 then (c.next, 0) else (-1, roomR T p c o q)) else (-1, unfitR c o q)
def addT (T : TT) (p : List Int) (o : Ob) (q : Int) : TT := updT (updT T (Pa.zText (p ++ [(atT T (Pa.zText p)).next])) o) (Pa.zText p) (addK (atT T (Pa.zText p)) o.kind q)
def RetAdd (w : World) (F : Nat → Prop) (t n : Nat) (T : TT) (p : List Int) (o : Ob) (q : Int) (e : Ending) (w' : World) : Prop :=
 e = .returned (.tuple #[.int .i64 (addR T p o q).1, .int .i64 (addR T p o q).2]) ∧ ∃ F', TabAt w' F' t (n + 2) (if (addR T p o q).2 = 0 then addT T p o q else T) ∧ Stp w F w' F'
theorem RetAdd.same {w w' : World} {F : Nat → Prop} {t n : Nat} {T : TT} {p : List Int} {o : Ob} {q : Int} {e : Ending} {z : Int} (ht : TabAt w F t n T) (hb : Below w.heap.size w w') (hz : addR T p o q = (-1, z)) (h0 : z ≠ 0) (he : e = .returned (.tuple #[.int .i64 (-1), .int .i64 z])) : RetAdd w F t n T p o q e w' := by
 refine ⟨by rw [hz]; exact he, F, ?_, Stp.of_below hb⟩
 rw [hz, if_neg h0]
 exact (ht.on hb).more (by omega)
theorem RetAdd.done {w w' : World} {F : Nat → Prop} {t n : Nat} {T : TT} {p : List Int} {o : Ob} {q z : Int} {e : Ending} (hz : addR T p o q = (z, 0)) (he : e = .returned (.tuple #[.int .i64 z, .int .i64 0])) (h : ∃ F', TabAt w' F' t (n + 2) (addT T p o q) ∧ Stp w F w' F') : RetAdd w F t n T p o q e w' := by
 refine ⟨by rw [hz]; exact he, ?_⟩
 rw [hz, if_pos rfl]
 exact h
theorem kidCells_snoc (l : List Kd) (k : Kd) : kidCells l ++ [.int .i64 k.1, .int .i64 k.2.1, .int .i64 k.2.2] = kidCells (l ++ [k]) := by
 induction l with
 | nil => rfl
 | cons x r ih => simp only [List.cons_append, kidCells, ← ih]
theorem ObjK.addK {w : World} {F : Nat → Prop} {vl vk vb vo ve vm vk' : Value} {b : Ob} {kd q : Int} (h : ObjK w F (.agg #[.int .i64 b.kind, vl, vk, .int .i64 b.next, vb, vo, .int .i64 b.cats, ve, .int .i64 b.ring, vm]) vk b) :
  ObjK w F (.agg #[.int .i64 b.kind, vl, vk', .int .i64 (b.next + 1), vb, vo, .int .i64 b.cats, ve, .int .i64 b.ring, vm]) vk' (addK b kd q) := by
 obtain ⟨vl', vb', vo', ve', vm', e, h1, h2, h3, h4, h5⟩ := h
 simp at e
 obtain ⟨rfl, rfl, rfl, rfl, rfl⟩ := e
 exact ⟨_, _, _, _, _, rfl, h1, h2, h3, h4, h5⟩
theorem wide_addK {b : Ob} {kd q : Int} (h : WideO b) (hl : b.kids.length ≤ 16) (hk : W64 kd) (hq : W64 q) (hn : W64 (b.next + 1)) : WideO (addK b kd q) :=
 { h with
   next := hn
   kids := ⟨by simp [addK]; omega, fun k hk' => by
    unfold addK at hk'
    rcases List.mem_append.1 hk' with h1 | h1
    · exact h.kids.2 k h1
    · simp at h1; subst h1; exact ⟨h.next, hk, hq⟩⟩ }
theorem lit_cells (w : World) (cs : List Value) (t : TypeId) : ∀ j u, cs[j]? = some u → (w.alloc (.cells cs.toArray t)).cell? ((⟨w.heap.size, 0, none⟩ : Addr).add j) = some u := fun j u h => by
 rw [Go.WideShapes.add_plain]
 have := (BoxAt.new w cs.toArray t).cell (k := j) (v := u) (by simpa using h)
 simpa using this
set_option maxRecDepth 100000 in
set_option maxHeartbeats 16000000 in
theorem add_some {w : World} {F G : Nat → Prop} {t bm n : Nat} {T : TT} {V K : List UInt8 → Value} {L : Tab} {A : Option Addr} {c : Nat} {p : List Int} {v : Value} {o b : Ob} {q : Int} (he : Env w) (hti : TabIs w F t bm n T V K) (hI : IsT T L) (hL : ValT L) (hF8 : ∀ x, F x → 8 ≤ x) (hn : n ≤ 10000000000) (hp : Pa.PL w A c p) (hpF : Sl w F A (Pa.zCellsOf p)) (hpl : p.length ≤ 10000000) (hv : ObjAt w G v o) (hw : WideO o) (hb : T (Pa.zText p) = some b) :
   Calls Tryz.prog 25 #[.pointer (some ⟨t, 0, none⟩), .slice A p.length c, v, .int .i64 q] w (RetAdd w F t n T p o q) := by
 have hfind : fnd L p = some b := by rw [← hI.at']; exact hb
 have hbok := hL.obAt hfind
 have hpa := hL.pathAt hfind
 have hwb := hti.wide _ _ hb
 have hlen : (Pa.zText p).length ≤ 100000000000 := by have := Pa.zText_len hp.wide; omega
 obtain ⟨vb, hvb⟩ : ∃ v, v = V (Pa.zText p) := ⟨_, rfl⟩
 obtain ⟨kb, hkb⟩ : ∃ v, v = K (Pa.zText p) := ⟨_, rfl⟩
 have hobk : ObjK w F vb kb b := by rw [hvb, hkb]; exact hti.ob _ _ hb
 have hrow : w.ownsRow 0 85 3 kb b.kids.length (kidCells b.kids) := by rw [hkb]; exact hti.row _ _ hb
 have hbat : ObjAt w No vb b := ⟨kb, hobk.on (Below.refl _ _) (fun _ _ h => h.elim), (slv_row hrow).on (Below.refl _ _) fun x _ hx => hx.elim⟩
 have R75 : Hid (∀ W, Below w.heap.size w W → Calls Tryz.prog 75 #[.pointer (some ⟨t, 0, none⟩), .slice A p.length c] W (RetB W (.tuple #[vb, .bool true]))) := fun W hW => by
   have e1 : lookV T V (Pa.zText p) = vb := by unfold lookV; rw [hb, hvb]
   have e2 : (T (Pa.zText p)).isSome = true := by rw [hb]; rfl
   have h := find_any (he.on hW) (hti.on hW).var (hti.on hW).map (hp.on hW) hpl (by rw [e1]; exact hbat.shape)
   rw [e1, e2] at h
   exact h
 have R77 : Hid (∀ W, Below w.heap.size w W → Calls Tryz.prog 77 #[vb, v, .int .i64 q] W (RetB W (.int .i64 (unfitR b o q)))) := fun W hW => unfit_any (he.on hW) (hbat.read hW) hwb (hv.read hW) hw
 have R78 : Hid (unfitR b o q = 0 → ∀ W, Below w.heap.size w W → Calls Tryz.prog 78 #[.pointer (some ⟨t, 0, none⟩), .slice A p.length c, vb, v, .int .i64 q] W (RetB W (.int .i64 (roomR T p b o q)))) := fun h0 W hW => noRoom_any (he.on hW) (hti.read hW) (hp.on hW) hpl (hbat.read hW) hwb hbok (hv.read hW) hw (unfitR_zero h0).2.1.1 (unfitR_zero h0).2.1.2.2.2
 have R79 : Hid (roomR T p b o q = 0 → ∀ W, Below w.heap.size w W → Calls Tryz.prog 79 #[.slice A p.length c, .int .i64 b.next] W fun e w' => Below W.heap.size W w' ∧ ∃ A5 c5, e = .returned (.tuple #[.slice A5 (p ++ [b.next]).length c5, .bool true]) ∧ Pa.PL w' A5 c5 (p ++ [b.next])) := fun h0 W hW => by
   have hr := roomR_zero h0
   have hnx := hbok.next
   have hok : Pa.PathOk (p ++ [b.next]) := by
     refine ⟨by have := hpa.1; simp; omega, fun z hz => ?_⟩
     rcases List.mem_append.1 hz with hz | hz
     · exact hpa.2 z hz
     · simp at hz; subst hz; omega
   refine (Pa.child_any (n := b.next) (hp.on hW) hpl).mono ?_
   rintro e w' ⟨hb, ⟨_, v2, rfl, hr2⟩ | ⟨h, _⟩⟩
   · obtain ⟨A2, c2, rfl, hpl2⟩ := hr2.pl hok.wide
     exact ⟨hb, A2, c2, rfl, hpl2⟩
   · exact (h hok).elim
 have R10 : Hid (∀ W, Below w.heap.size w W → Calls Tryz.prog 10 #[v] W (RetObj W o)) := fun W hW => copy_any (hv.read hW) hw
 have R68 : Hid (∀ W, Env W → Pa.PL W A c p → Calls Tryz.prog 68 #[.slice A p.length c] W (RetB W (.string (str (Pa.zText p))))) := fun W h1 h2 => Pa.text_any h1 h2.zs h2.wide hpl
 have R68c : Hid (∀ (A5 : Option Addr) (c5 : Nat) (w5 W : World), Below w.heap.size w w5 → Pa.PL w5 A5 c5 (p ++ [b.next]) → Below w5.heap.size w5 W → Calls Tryz.prog 68 #[.slice A5 (p ++ [b.next]).length c5] W (RetB W (.string (str (Pa.zText (p ++ [b.next])))))) := fun A5 c5 w5 W h1 h2 hW => Pa.text_any ((he.on h1).on hW) (h2.on hW).zs h2.wide (by simp; have := hpa.1; omega)
 have hlen5 : (Pa.zText (p ++ [b.next])).length ≤ 100000000000 := by
   have hnx := hbok.next
   have := Pa.zText_len (zs := p ++ [b.next]) (fun z hz => by
     rcases List.mem_append.1 hz with hz | hz
     · exact hp.wide z hz
     · simp at hz; subst hz; omega)
   have := hpa.1
   simp at *
   omega
 have hne5 : ¬ Pa.zText p = Pa.zText (p ++ [b.next]) := fun e => snoc_ne p b.next (zText_inj e).symm
 have HR : Hid (addR T p o q = if unfitR b o q = 0 then (if roomR T p b o q = 0 then (b.next, 0) else (-1, roomR T p b o q)) else (-1, unfitR b o q)) := by
   unfold Hid addR
   rw [hb]
 have HAT : Hid (atT T (Pa.zText p) = b) := by unfold Hid atT; rw [hb]; rfl
 have HNX := Lib.hid hbok.next
 have HKL := Lib.hid hbok.kids.1
 have HB := Lib.hid hb
 have HTI := Lib.hid hti
 have HE := Lib.hid he
 have HP := Lib.hid hp
 have HW := Lib.hid hw
 have HWB := Lib.hid hwb
 have HN := Lib.hid hn
 have HLEN := Lib.hid hlen
 have HLEN5 := Lib.hid hlen5
 have HNE5 := Lib.hid hne5
 have HOBK := Lib.hid hobk
 have HROW := Lib.hid hrow
 have HKB := Lib.hid hkb
 have HPF := Lib.hid hpF
 have HF8 := Lib.hid hF8
 obtain ⟨vk, ⟨vl, vby, vo, ve, vm, rfl, ⟨Al, cl, rfl, -⟩, ⟨Ab, cb, rfl, -⟩, ⟨Ao, co, rfl, -⟩, ⟨Ae, ce, rfl, -⟩, ⟨Am, cm, rfl, -⟩⟩, ⟨Ak, ck, rfl, -⟩⟩ := hv
 obtain ⟨vl1, vb1, vo1, ve1, vm1, rfl, ⟨Al1, cl1, rfl, -⟩, ⟨Ab1, cb1, rfl, -⟩, ⟨Ao1, co1, rfl, -⟩, ⟨Ae1, ce1, rfl, -⟩, ⟨Am1, cm1, rfl, -⟩⟩ := hobk
 obtain ⟨Ak1, ck1, rfl, -⟩ := slv_row hrow
 obtain ⟨cy, hcy⟩ : ∃ cs : Array Value, cs = #[.int .i64 o.kind, .slice Al o.lab.length cl, .slice Ak o.kids.length ck, .int .i64 o.next, .slice Ab o.bytes.length cb, .slice Ao o.own.length co, .int .i64 o.cats, .slice Ae o.entry.length ce, .int .i64 o.ring, .slice Am o.maps.length cm] := ⟨_, rfl⟩
 obtain ⟨cx, hcx⟩ : ∃ cs : Array Value, cs = #[.int .i64 b.kind, .slice Al1 b.lab.length cl1, .slice Ak1 b.kids.length ck1, .int .i64 b.next, .slice Ab1 b.bytes.length cb1, .slice Ao1 b.own.length co1, .int .i64 b.cats, .slice Ae1 b.entry.length ce1, .int .i64 b.ring, .slice Am1 b.maps.length cm1] := ⟨_, rfl⟩
 have B0 := Lib.hid ((Below.refl w.heap.size w).alloc (Nat.le_refl _) (.cells cy 29))
 have XO0 := Lib.hid (BoxAt.new w cy 29)
 have CY := Lib.hid hcy
 have CX := Lib.hid hcx
 have H75 := Lib.hid (R75.out _ B0.out)
 rw [hcy] at H75
 obtain ⟨u, hu⟩ : ∃ u, u = unfitR b o q := ⟨_, rfl⟩
 obtain ⟨r, hr⟩ : ∃ u, u = roomR T p b o q := ⟨_, rfl⟩
 have HU := Lib.hid hu
 rw [← hu] at R77 R78 HR
 rw [← hr] at R78 R79 HR
 obtain ⟨ch, hch⟩ : ∃ l, l = p ++ [b.next] := ⟨_, rfl⟩
 rw [← hch] at R79 R68c HLEN5 HNE5
 have HCH := Lib.hid hch
 clear hch
 clear hpF hF8
 clear he hti hI hL hn hp hpl hw hb hfind hbok hpa hwb hlen hvb hkb hrow hbat hlen5 hne5 hcy hcx R75 hu hr
 go_enter Tryz.func25, Tryz.ntmps25
 go_wp2_with fail
 refine H75.out.mono ?_
 rintro e w1 ⟨rfl, hb1⟩
 rw [← CY.out] at hb1
 have B1 := Lib.hid (next_below B0.out hb1)
 have XO1 := Lib.hid (XO0.out.on hb1)
 have B2 : Hid (Below w.heap.size w (w1.alloc (.cells cx 29))) := next_below B1.out ((Below.refl _ _).alloc (Nat.le_refl _) _)
 have XO2 : Hid (BoxAt (w1.alloc (.cells cx 29)) w.heap.size cy 29) := XO1.out.alloc _
 have XB2 := Lib.hid (BoxAt.new w1 cx 29)
 have h77 := R77.out _ B2.out
 rw [CX.out] at h77
 have H77 := Lib.hid h77
 have x2 := XO2.out
 rw [CX.out, CY.out] at x2
 obtain ⟨y0, y1, y2, y3, y4, y5, y6, y7, y8, y9⟩ := box10 x2
 clear hb1 h77 x2 R77
 by_cases h2 : u = 0
 case neg =>
   have k1 : (u == 0) = false := by simpa using h2
   have k2 : (u != 0) = true := by simpa using h2
   have HD := Lib.hid (HR.out.trans (if_neg h2))
   go_wp2_with (first | (go_at_call 77; refine H77.out.mono ?_; rintro e w3 ⟨rfl, hb3⟩; rw [← CX.out] at hb3; have B3 := Lib.hid (next_below B2.out hb3); have XO3 := Lib.hid (XO2.out.on hb3); have XB3 := Lib.hid (XB2.out.on hb3); have y3x := XO3.out; have x3x := XB3.out; rw [CY.out] at y3x; rw [CX.out] at x3x; obtain ⟨q0, q1, q2, q3, q4, q5, q6, q7, q8, q9⟩ := box10 x3x; obtain ⟨r0, r1, r2, r3, r4, r5, r6, r7, r8, r9⟩ := box10 y3x; clear hb3 x3x y3x))
   go_ret2
   exact RetAdd.same ⟨_, _, _, HTI.out⟩ B3.out HD.out h2 rfl
 have k1 : (u == 0) = true := by simpa using h2
 have k2 : (u != 0) = false := by simpa using h2
 have HR := Lib.hid (HR.out.trans (if_pos h2))
 have H2 := Lib.hid h2
 clear h2
 by_cases h3 : r = 0
 case neg =>
   have k3 : (r == 0) = false := by simpa using h3
   have k4 : (r != 0) = true := by simpa using h3
   have HD := Lib.hid (HR.out.trans (if_neg h3))
   go_wp2_with (first | (go_at_call 78; refine (R78.out H2.out _ B3.out).mono ?_; rintro e w4 ⟨rfl, hb4⟩; have B4 := Lib.hid (next_below B3.out hb4); have XO4 := Lib.hid (XO3.out.on hb4); have XB4 := Lib.hid (XB3.out.on hb4); have x4x := XB4.out; rw [CX.out] at x4x; obtain ⟨s0, s1, s2, s3, s4, s5, s6, s7, s8, s9⟩ := box10 x4x; clear hb4 x4x) | (go_at_call 77; refine H77.out.mono ?_; rintro e w3 ⟨rfl, hb3⟩; rw [← CX.out] at hb3; have B3 := Lib.hid (next_below B2.out hb3); have XO3 := Lib.hid (XO2.out.on hb3); have XB3 := Lib.hid (XB2.out.on hb3); have y3x := XO3.out; have x3x := XB3.out; rw [CY.out] at y3x; rw [CX.out] at x3x; obtain ⟨q0, q1, q2, q3, q4, q5, q6, q7, q8, q9⟩ := box10 x3x; obtain ⟨r0, r1, r2, r3, r4, r5, r6, r7, r8, r9⟩ := box10 y3x; clear hb3 x3x y3x))
   go_ret2
   exact RetAdd.same ⟨_, _, _, HTI.out⟩ B4.out HD.out h3 rfl
 have k3 : (r == 0) = true := by simpa using h3
 have k4 : (r != 0) = false := by simpa using h3
 have HD := Lib.hid (HR.out.trans (if_pos h3))
 have H3 := Lib.hid h3
 clear h3
 go_wp2_with (first | (go_at_call 79; refine (R79.out H3.out _ B4.out).mono ?_; rintro e w5 ⟨hb5, A5, c5, rfl, hp5⟩; have B5 := Lib.hid (next_below B4.out hb5); have XO5 := Lib.hid (XO4.out.on hb5); have XB5 := Lib.hid (XB4.out.on hb5); have P5 := Lib.hid hp5; have y5x := XO5.out; rw [CY.out] at y5x; obtain ⟨t0, t1, t2, t3, t4, t5, t6, t7, t8, t9⟩ := box10 y5x; clear hb5 hp5 y5x) | (go_at_call 78; refine (R78.out H2.out _ B3.out).mono ?_; rintro e w4 ⟨rfl, hb4⟩; have B4 := Lib.hid (next_below B3.out hb4); have XO4 := Lib.hid (XO3.out.on hb4); have XB4 := Lib.hid (XB3.out.on hb4); have x4x := XB4.out; rw [CX.out] at x4x; obtain ⟨s0, s1, s2, s3, s4, s5, s6, s7, s8, s9⟩ := box10 x4x; clear hb4 x4x) | (go_at_call 77; refine H77.out.mono ?_; rintro e w3 ⟨rfl, hb3⟩; rw [← CX.out] at hb3; have B3 := Lib.hid (next_below B2.out hb3); have XO3 := Lib.hid (XO2.out.on hb3); have XB3 := Lib.hid (XB2.out.on hb3); have y3x := XO3.out; have x3x := XB3.out; rw [CY.out] at y3x; rw [CX.out] at x3x; obtain ⟨q0, q1, q2, q3, q4, q5, q6, q7, q8, q9⟩ := box10 x3x; obtain ⟨r0, r1, r2, r3, r4, r5, r6, r7, r8, r9⟩ := box10 y3x; clear hb3 x3x y3x))
 have hc5 : Below w5.heap.size w5 w5.drew := (Below.refl _ _).drew
 have htlt := HTI.out.tlt
 have hv0 := HTI.out.var
 have hbmlt := HTI.out.map.lt
 obtain ⟨s5, hs5⟩ : ∃ s, s = Pa.zText ch := ⟨_, rfl⟩
 obtain ⟨S5, hS5⟩ : ∃ S, S = str s5 := ⟨_, rfl⟩
 have R68d : Hid (∀ W, Below w5.heap.size w5 W → Calls Tryz.prog 68 #[.slice A5 ch.length c5] W (RetB W (.string S5))) := fun W hW => by rw [hS5, hs5]; exact R68c.out A5 c5 w5 W B5.out P5.out hW
 have HL5 : Hid (s5.length ≤ 100000000000) := by rw [hs5]; exact HLEN5.out
 have HNE : Hid (¬ Pa.zText p = s5) := by rw [hs5]; exact HNE5.out
 have HS5 := Lib.hid hs5
 have hkp : ∀ W, Below w.heap.size w W → ∀ v, (Instr.mapUpdate 72 (.map (some bm)) (.string S5) v).run Tryz.prog W = .ok () (putW bm s5 v W) := fun W hW v => by
   rw [hS5]
   exact ((HTI.out.map.on hW).put (by have := HN.out; omega) HL5.out v).1
 have hkp2 : ∀ W, Below w.heap.size w W → ∀ u v, (Instr.mapUpdate 72 (.map (some bm)) (.string S5) v).run Tryz.prog (putW bm s5 u W) = .ok () (putW bm s5 v (putW bm s5 u W)) := fun W hW u v => by
   rw [hS5]
   exact ((((HTI.out.map.on hW).put (by have := HN.out; omega) HL5.out u).2.1 o).put (by have := HN.out; omega) HL5.out v).1
 clear hs5 hS5
 have mk : ∀ W, Below w.heap.size w W → BoxAt W w.heap.size cy 29 → W.cell? ⟨t, 0, none⟩ = some (.map (some bm)) ∧ W.cell? ⟨w.heap.size, 0, none⟩ = some (.int .i64 o.kind) ∧ W.cell? ⟨w.heap.size, 1, none⟩ = some (.slice Al o.lab.length cl) ∧ W.cell? ⟨w.heap.size, 2, none⟩ = some (.slice Ak o.kids.length ck) ∧ W.cell? ⟨w.heap.size, 3, none⟩ = some (.int .i64 o.next) ∧ W.cell? ⟨w.heap.size, 4, none⟩ = some (.slice Ab o.bytes.length cb) ∧ W.cell? ⟨w.heap.size, 5, none⟩ = some (.slice Ao o.own.length co) ∧ W.cell? ⟨w.heap.size, 6, none⟩ = some (.int .i64 o.cats) ∧ W.cell? ⟨w.heap.size, 7, none⟩ = some (.slice Ae o.entry.length ce) ∧ W.cell? ⟨w.heap.size, 8, none⟩ = some (.int .i64 o.ring) ∧ W.cell? ⟨w.heap.size, 9, none⟩ = some (.slice Am o.maps.length cm) ∧ (∀ v, (Instr.mapUpdate 72 (.map (some bm)) (.string S5) v).run Tryz.prog W = .ok () (putW bm s5 v W)) := fun W hW hX => by
   rw [CY.out] at hX
   obtain ⟨q0, q1, q2, q3, q4, q5, q6, q7, q8, q9⟩ := box10 hX
   exact ⟨(hW.cell (p := ⟨t, 0, none⟩) htlt).trans hv0, q0, q1, q2, q3, q4, q5, q6, q7, q8, q9, hkp W hW⟩
 have mkP : ∀ W u, Below w.heap.size w W → BoxAt W w.heap.size cy 29 → (putW bm s5 u W).cell? ⟨t, 0, none⟩ = some (.map (some bm)) ∧ (putW bm s5 u W).cell? ⟨w.heap.size, 0, none⟩ = some (.int .i64 o.kind) ∧ (putW bm s5 u W).cell? ⟨w.heap.size, 1, none⟩ = some (.slice Al o.lab.length cl) ∧ (putW bm s5 u W).cell? ⟨w.heap.size, 2, none⟩ = some (.slice Ak o.kids.length ck) ∧ (putW bm s5 u W).cell? ⟨w.heap.size, 3, none⟩ = some (.int .i64 o.next) ∧ (putW bm s5 u W).cell? ⟨w.heap.size, 4, none⟩ = some (.slice Ab o.bytes.length cb) ∧ (putW bm s5 u W).cell? ⟨w.heap.size, 5, none⟩ = some (.slice Ao o.own.length co) ∧ (putW bm s5 u W).cell? ⟨w.heap.size, 6, none⟩ = some (.int .i64 o.cats) ∧ (putW bm s5 u W).cell? ⟨w.heap.size, 7, none⟩ = some (.slice Ae o.entry.length ce) ∧ (putW bm s5 u W).cell? ⟨w.heap.size, 8, none⟩ = some (.int .i64 o.ring) ∧ (putW bm s5 u W).cell? ⟨w.heap.size, 9, none⟩ = some (.slice Am o.maps.length cm) ∧ (∀ v, (Instr.mapUpdate 72 (.map (some bm)) (.string S5) v).run Tryz.prog (putW bm s5 u W) = .ok () (putW bm s5 v (putW bm s5 u W))) := fun W u hW hX => by
   have hK : Tp.Kp (fun b => b = bm) W (putW bm s5 u W) := (Tp.Kp.refl _ W).grown ((HTI.out.map.on hW).put (by have := HN.out; omega) HL5.out u).2.2 fun k e _ => by injection e with e; exact e.symm
   have hX := hX.kp hK (fun e => by omega)
   rw [CY.out] at hX
   obtain ⟨q0, q1, q2, q3, q4, q5, q6, q7, q8, q9⟩ := box10 hX
   exact ⟨hK.cell ((hW.cell (p := ⟨t, 0, none⟩) htlt).trans hv0) (fun e => HTI.out.map.ne hv0 e), q0, q1, q2, q3, q4, q5, q6, q7, q8, q9, hkp2 W hW u⟩
 go_region_held3 (fun W => W.cell? ⟨t, 0, none⟩ = some (.map (some bm)) ∧ W.cell? ⟨w.heap.size, 0, none⟩ = some (.int .i64 o.kind) ∧ W.cell? ⟨w.heap.size, 1, none⟩ = some (.slice Al o.lab.length cl) ∧ W.cell? ⟨w.heap.size, 2, none⟩ = some (.slice Ak o.kids.length ck) ∧ W.cell? ⟨w.heap.size, 3, none⟩ = some (.int .i64 o.next) ∧ W.cell? ⟨w.heap.size, 4, none⟩ = some (.slice Ab o.bytes.length cb) ∧ W.cell? ⟨w.heap.size, 5, none⟩ = some (.slice Ao o.own.length co) ∧ W.cell? ⟨w.heap.size, 6, none⟩ = some (.int .i64 o.cats) ∧ W.cell? ⟨w.heap.size, 7, none⟩ = some (.slice Ae o.entry.length ce) ∧ W.cell? ⟨w.heap.size, 8, none⟩ = some (.int .i64 o.ring) ∧ W.cell? ⟨w.heap.size, 9, none⟩ = some (.slice Am o.maps.length cm) ∧ (∀ v, (Instr.mapUpdate 72 (.map (some bm)) (.string S5) v).run Tryz.prog W = .ok () (putW bm s5 v W)))
   (first | with_reducible exact mkP _ _ B9.out X9.out | with_reducible exact mk _ B9.out X9.out | with_reducible exact mk _ B8.out X8.out | with_reducible exact mk _ B5.out.drew XO5.out.drew | with_reducible exact mk _ B5.out XO5.out)
   (first
     | (go_at_call 10; refine (R10.out _ B8.out).mono ?_; rintro e W9 ⟨hb9, v3, vk3, rfl, hrow3, hob3⟩; have B9 := Lib.hid (next_below B8.out hb9); have X9 := Lib.hid (X8.out.on hb9); have Z9 := Lib.hid (Z8.out.on hb9); have RW := Lib.hid hrow3; have OB := Lib.hid hob3; have HA := Lib.hid hb9; clear hb9 hrow3 hob3)
     | (go_at_call 68; refine (R68d.out _ hc5).mono ?_; rintro e W8 ⟨rfl, hb8⟩; have B8 := Lib.hid (next_below B5.out.drew hb8); have C8 := Lib.hid hb8; have X8 := Lib.hid (XO5.out.drew.on hb8); have Z8 := Lib.hid (XB5.out.drew.on hb8); clear hb8))
 · obtain ⟨Wc, hWc⟩ : ∃ W, W = putW bm s5 v3 W9 := ⟨_, rfl⟩
   rw [← hWc]
   have hsz8 := B8.out.size
   have h98 := HA.out
   have hg8 := HTI.out.grow B8.out
   have hn3 : ∀ x, vk3.ownBlock = some x → W8.heap.size ≤ x := fun x hx => (own_block RW.out hx).1
   obtain ⟨hc1, hc2⟩ := (hg8.on h98).put (s := s5) (v := v3) (vk := vk3) (o := o) (by have := HN.out; omega) HL5.out HW.out
     (OB.out.on (Below.refl _ _) fun x _ hx => hx.imp (fun hx => hx.elim (fun hx => by have := HTI.out.ltF x hx; omega) (fun hx => hx.2)) id)
     (own_base RW.out (Nat.zero_le _))
     (fun x hx => .inl fun hF => hF.elim (fun hF => by have := HTI.out.ltF x hF; have := hn3 x hx; omega) (fun hF => by have := hn3 x hx; omega))
     (fun s' o' h' _ => (HTI.out.ob s' o' h').on B9.out fun x hx hF => hF.elim (fun hF => hF.elim id (fun hF => by omega)) (fun hF => by have := hn3 x hF; omega))
     (fun hx => by have := hn3 t hx; omega)
   rw [← hWc] at hc1 hc2
   obtain ⟨F3, hF3⟩ : ∃ F3 : Nat → Prop, F3 = fun x => (F x ∨ (w.heap.size ≤ x ∧ x < W8.heap.size)) ∨ vk3.ownBlock = some x := ⟨_, rfl⟩
   have hc1 : TabIs Wc F3 t bm (n + 1) (updT T s5 o) (updV V s5 v3) (updV K s5 vk3) := by rw [hF3]; exact hc1
   have f31 : Hid (∀ x, F x → F3 x) := fun x hx => by rw [hF3]; exact .inl (.inl hx)
   have f32 : Hid (∀ x, w.heap.size ≤ x → x < W8.heap.size → F3 x) := fun x h1 h2 => by rw [hF3]; exact .inl (.inr ⟨h1, h2⟩)
   have f33 : Hid (∀ x, F3 x → F x ∨ w.heap.size ≤ x) := fun x hx => by
     rw [hF3] at hx
     exact hx.elim (fun hx => hx.imp id fun h => h.1) fun hx => .inr (by have := hn3 x hx; omega)
   clear hF3
   have hKF : Tp.Kp F w Wc := (Tp.Kp.of_below B9.out F).andThen hc2 fun i _ e => by rw [e]; exact HTI.out.isF
   have hB1s : w.heap.size < w1.heap.size := XO1.out.lt
   have xb := Z9.out.kp hc2 (by omega)
   have xo := X9.out.kp hc2 (by omega)
   have rowc := own_kp (own_on HROW.out B9.out) hc2 fun x hx e => HTI.out.map.not_row HROW.out (by rw [hx, e])
   rw [CX.out] at xb
   rw [CY.out] at xo
   obtain ⟨q0, q1, q2, q3, q4, q5, q6, q7, q8, q9⟩ := box10 xb
   obtain ⟨r0, r1, r2, r3, r4, r5, r6, r7, r8, r9⟩ := box10 xo
   obtain ⟨i0, hi, hz0, hz1, hz2⟩ := info_parts Tryz.info85
   have ROWA := Lib.hid (own_on rowc ((Below.refl Wc.heap.size Wc).alloc (Nat.le_refl _) (.cells #[.int .i64 b.next, .int .i64 o.kind, .int .i64 q] 85)))
   have XBA := Lib.hid (xb.alloc (.cells #[.int .i64 b.next, .int .i64 o.kind, .int .i64 q] 85))
   have CL := Lib.hid (lit_cells Wc [.int .i64 b.next, .int .i64 o.kind, .int .i64 q] 85)
   have HC1 := Lib.hid hc1
   have HKF := Lib.hid hKF
   have HC2 := Lib.hid hc2
   have XB := Lib.hid xb
   have HWC := Lib.hid hWc
   have nx1 := HNX.out.1
   have nx2 := HNX.out.2
   have hkl := HKL.out
   clear hsz8 h98 hg8 hn3 hc1 hc2 hKF xb xo rowc hWc hkp hkp2 mk mkP hc5
   go_wp2_with (first
     | (at_builtin; refine wpList_append_own_at _ rfl _ _ 24 rfl 0 85 i0 _ 3 24 Tryz.underlying24 hi hz0 hz1 hz2 rfl (by decide) _ b.kids.length _ rfl ROWA.out ⟨Wc.heap.size, 0, none⟩ 1 1 [.int .i64 b.next, .int .i64 o.kind, .int .i64 q] rfl rfl CL.out (by simp [Value.oneCell']) (by unfold maxLen; omega) (by omega) (Nat.zero_le _) ?_))
   intro v6 w6 h6 g6 _ a6
   rw [show kidCells b.kids ++ [.int .i64 b.next, .int .i64 o.kind, .int .i64 q] = kidCells (b.kids ++ [(b.next, o.kind, q)]) from kidCells_snoc b.kids (b.next, o.kind, q)] at h6
   obtain ⟨A6, c6, rfl, -⟩ := slv_row h6
   have hkbo : ∀ x, (Value.slice Ak1 b.kids.length ck1).ownBlock = some x → F x := fun x hx => HTI.out.inF _ _ HB.out x (by rw [← HKB.out]; exact hx)
   have h1F : ¬ F w1.heap.size := fun h => by have := HTI.out.ltF _ h; have := XO1.out.lt; omega
   have hB1s : w.heap.size < w1.heap.size := XO1.out.lt
   have Y6 : BoxAt w6 w1.heap.size #[.int .i64 b.kind, .slice Al1 b.lab.length cl1, .slice Ak1 b.kids.length ck1, .int .i64 b.next, .slice Ab1 b.bytes.length cb1, .slice Ao1 b.own.length co1, .int .i64 b.cats, .slice Ae1 b.entry.length ce1, .int .i64 b.ring, .slice Am1 b.maps.length cm1] 29 := (g6.block _ XBA.out.lt (fun e => h1F (hkbo _ e.symm))).trans XBA.out
   have Y7 := Y6.setL 2 (.slice A6 (b.kids.length + 1) c6)
   simp only [List.set_cons_zero, List.set_cons_succ] at Y7
   have Y8 := Y7.setL 3 (.int .i64 (b.next + 1))
   simp only [List.set_cons_zero, List.set_cons_succ] at Y8
   obtain ⟨Wd, hWd⟩ : ∃ W, W = (w6.setCell ⟨w1.heap.size, 2, none⟩ (.slice A6 (b.kids.length + 1) c6)).setCell ⟨w1.heap.size, 3, none⟩ (.int .i64 (b.next + 1)) := ⟨_, rfl⟩
   have hKD : Tp.Kp F w Wd := by
     rw [hWd]
     exact (((HKF.out.alloc _).grown g6 (fun k e _ => hkbo k e)).setCell (p := ⟨w1.heap.size, 2, none⟩) (fun h => by simp only at h; omega) _).setCell (p := ⟨w1.heap.size, 3, none⟩) (fun h => by simp only at h; omega) _
   have hKc : Tp.Kp F3 Wc Wd := by
     rw [hWd]
     exact ((((Tp.Kp.refl F3 Wc).alloc _).grown g6 (fun k e _ => f31.out k (hkbo k e))).setCell (p := ⟨w1.heap.size, 2, none⟩) (fun _ => f32.out _ (by simp only; omega) (by have := B8.out.size; have := Z8.out.lt; simp only; omega)) _).setCell (p := ⟨w1.heap.size, 3, none⟩) (fun _ => f32.out _ (by simp only; omega) (by have := B8.out.size; have := Z8.out.lt; simp only; omega)) _
   have KC := Lib.hid hKc
   have hS1 : (updT T s5 o) (Pa.zText p) = some b := by unfold updT; rw [if_neg HNE.out]; exact HB.out
   have hK1 : (updV K s5 vk3) (Pa.zText p) = .slice Ak1 b.kids.length ck1 := by unfold updV; rw [if_neg HNE.out]; exact HKB.out.symm
   have hXd : TabX Wd F3 t bm (n + 1) (updT T s5 o) (updV V s5 v3) (updV K s5 vk3) (Pa.zText p) := by
     refine HC1.out.but (s := Pa.zText p) (S := fun x => (Value.slice Ak1 b.kids.length ck1).ownBlock = some x ∨ x = w1.heap.size) ?_ ?_
     · rw [hWd]
       exact ((((Tp.Kp.refl _ Wc).alloc _).grown g6 (fun k e _ => .inl e)).setCell (p := ⟨w1.heap.size, 2, none⟩) (fun _ => .inr rfl) _).setCell (p := ⟨w1.heap.size, 3, none⟩) (fun _ => .inr rfl) _
     · rintro x hx (e | rfl)
       · refine ⟨f31.out x (hkbo x e), fun e2 => HTI.out.map.not_row HROW.out (by rw [← e2]; exact e), fun s' o' h1 h2 h3 => ?_⟩
         exact HC1.out.dist s' (Pa.zText p) o' b h1 hS1 h2 x h3 (by rw [hK1]; exact e)
       · refine ⟨f32.out _ (by omega) ?_, by have := HTI.out.map.lt; omega, fun s' o' h1 h2 h3 => ?_⟩
         · have := B8.out.size; have := Z8.out.lt; omega
         · obtain ⟨_, _, cur, hcur⟩ := own_block (HC1.out.row s' o' h1) h3
           have := XB.out
           unfold BoxAt at this
           rw [this] at hcur
           simp at hcur
   have hrowd : Wd.ownsRow 0 85 3 (.slice A6 (b.kids.length + 1) c6) (b.kids.length + 1) (kidCells (b.kids ++ [(b.next, o.kind, q)])) := by
     rw [hWd]
     refine own_kp h6 (((Tp.Kp.refl (fun x => x = w1.heap.size) w6).setCell (p := ⟨w1.heap.size, 2, none⟩) (fun _ => rfl) _).setCell (p := ⟨w1.heap.size, 3, none⟩) (fun _ => rfl) _) fun x hx e => ?_
     subst e
     obtain ⟨_, _, cur, hcur⟩ := own_block h6 hx
     have := Y6
     unfold BoxAt at this
     rw [this] at hcur
     simp at hcur
   have hED : Env Wd := HE.out.below (hKD.below HE.out.1 HF8.out) (Nat.le_refl 8)
   have hPD : Pa.PL Wd A c p := ⟨(HPF.out.kp (F' := F) hKD (fun _ _ h => h) (fun _ _ h => h)).zs, HP.out.nil, HP.out.cap, HP.out.wide⟩
   have hYd : BoxAt Wd w1.heap.size #[.int .i64 b.kind, .slice Al1 b.lab.length cl1, .slice A6 (b.kids.length + 1) c6, .int .i64 (b.next + 1), .slice Ab1 b.bytes.length cb1, .slice Ao1 b.own.length co1, .int .i64 b.cats, .slice Ae1 b.entry.length ce1, .int .i64 b.ring, .slice Am1 b.maps.length cm1] 29 := by rw [hWd]; exact Y8
   have Y8d := hYd
   rw [hWd] at Y8d
   have F6 := Y6.frozen
   have F7 := Y7.frozen
   obtain ⟨q0, q1, q2, q3, q4, q5, q6, q7, q8, q9⟩ := box10 Y6
   obtain ⟨r0, r1, r2, r3, r4, r5, r6, r7, r8, r9⟩ := box10 Y7
   have HKD := Lib.hid hKD
   have XD := Lib.hid hXd
   have RD := Lib.hid hrowd
   have ED := Lib.hid hED
   have PD := Lib.hid hPD
   have YD := Lib.hid hYd
   have HWD := Lib.hid hWd
   have A6h := Lib.hid a6
   have G6 := Lib.hid g6
   clear Y6 Y7 Y8 Y8d h6 g6 hkbo h1F hKD hS1 hK1 hXd hrowd hED hPD hYd hWd a6 hi hz0 hz1 hz2
   go_wp2_with fail
   rw [← HWD.out]
   obtain ⟨S, hS⟩ : ∃ S, S = str (Pa.zText p) := ⟨_, rfl⟩
   have R68e : Hid (∀ W, Below Wd.heap.size Wd W → Calls Tryz.prog 68 #[.slice A p.length c] W (RetB W (.string S))) := fun W hW => by rw [hS]; exact R68.out W (ED.out.on hW) (PD.out.on hW)
   have htd := World.block_lt_of_cell? Wd _ XD.out.var
   have hvd := XD.out.var
   have hmd := XD.out.map.lt
   have hyd := YD.out.lt
   have hkp : ∀ W, Below Wd.heap.size Wd W → ∀ v, (Instr.mapUpdate 72 (.map (some bm)) (.string S) v).run Tryz.prog W = .ok () (putW bm (Pa.zText p) v W) := fun W hW v => by
     rw [hS]
     exact ((XD.out.map.on hW).put (by have := HN.out; omega) HLEN.out v).1
   have hkp2 : ∀ W, Below Wd.heap.size Wd W → ∀ u v, (Instr.mapUpdate 72 (.map (some bm)) (.string S) v).run Tryz.prog (putW bm (Pa.zText p) u W) = .ok () (putW bm (Pa.zText p) v (putW bm (Pa.zText p) u W)) := fun W hW u v => by
     rw [hS]
     exact ((((XD.out.map.on hW).put (by have := HN.out; omega) HLEN.out u).2.1 o).put (by have := HN.out; omega) HLEN.out v).1
   clear hS
   have mk : ∀ W, Below Wd.heap.size Wd W → W.cell? ⟨t, 0, none⟩ = some (.map (some bm)) ∧ W.cell? ⟨w1.heap.size, 0, none⟩ = some (.int .i64 b.kind) ∧ W.cell? ⟨w1.heap.size, 1, none⟩ = some (.slice Al1 b.lab.length cl1) ∧ W.cell? ⟨w1.heap.size, 2, none⟩ = some (.slice A6 (b.kids.length + 1) c6) ∧ W.cell? ⟨w1.heap.size, 3, none⟩ = some (.int .i64 (b.next + 1)) ∧ W.cell? ⟨w1.heap.size, 4, none⟩ = some (.slice Ab1 b.bytes.length cb1) ∧ W.cell? ⟨w1.heap.size, 5, none⟩ = some (.slice Ao1 b.own.length co1) ∧ W.cell? ⟨w1.heap.size, 6, none⟩ = some (.int .i64 b.cats) ∧ W.cell? ⟨w1.heap.size, 7, none⟩ = some (.slice Ae1 b.entry.length ce1) ∧ W.cell? ⟨w1.heap.size, 8, none⟩ = some (.int .i64 b.ring) ∧ W.cell? ⟨w1.heap.size, 9, none⟩ = some (.slice Am1 b.maps.length cm1) ∧ (∀ v, (Instr.mapUpdate 72 (.map (some bm)) (.string S) v).run Tryz.prog W = .ok () (putW bm (Pa.zText p) v W)) := fun W hW => by
     have hX := YD.out.on hW
     obtain ⟨q0, q1, q2, q3, q4, q5, q6, q7, q8, q9⟩ := box10 hX
     exact ⟨(hW.cell (p := ⟨t, 0, none⟩) htd).trans hvd, q0, q1, q2, q3, q4, q5, q6, q7, q8, q9, hkp W hW⟩
   have mkP : ∀ W u, Below Wd.heap.size Wd W → (putW bm (Pa.zText p) u W).cell? ⟨t, 0, none⟩ = some (.map (some bm)) ∧ (putW bm (Pa.zText p) u W).cell? ⟨w1.heap.size, 0, none⟩ = some (.int .i64 b.kind) ∧ (putW bm (Pa.zText p) u W).cell? ⟨w1.heap.size, 1, none⟩ = some (.slice Al1 b.lab.length cl1) ∧ (putW bm (Pa.zText p) u W).cell? ⟨w1.heap.size, 2, none⟩ = some (.slice A6 (b.kids.length + 1) c6) ∧ (putW bm (Pa.zText p) u W).cell? ⟨w1.heap.size, 3, none⟩ = some (.int .i64 (b.next + 1)) ∧ (putW bm (Pa.zText p) u W).cell? ⟨w1.heap.size, 4, none⟩ = some (.slice Ab1 b.bytes.length cb1) ∧ (putW bm (Pa.zText p) u W).cell? ⟨w1.heap.size, 5, none⟩ = some (.slice Ao1 b.own.length co1) ∧ (putW bm (Pa.zText p) u W).cell? ⟨w1.heap.size, 6, none⟩ = some (.int .i64 b.cats) ∧ (putW bm (Pa.zText p) u W).cell? ⟨w1.heap.size, 7, none⟩ = some (.slice Ae1 b.entry.length ce1) ∧ (putW bm (Pa.zText p) u W).cell? ⟨w1.heap.size, 8, none⟩ = some (.int .i64 b.ring) ∧ (putW bm (Pa.zText p) u W).cell? ⟨w1.heap.size, 9, none⟩ = some (.slice Am1 b.maps.length cm1) ∧ (∀ v, (Instr.mapUpdate 72 (.map (some bm)) (.string S) v).run Tryz.prog (putW bm (Pa.zText p) u W) = .ok () (putW bm (Pa.zText p) v (putW bm (Pa.zText p) u W))) := fun W u hW => by
     have hK : Tp.Kp (fun b => b = bm) W (putW bm (Pa.zText p) u W) := (Tp.Kp.refl _ W).grown ((XD.out.map.on hW).put (by have := HN.out; omega) HLEN.out u).2.2 fun k e _ => by injection e with e; exact e.symm
     have hX := (YD.out.on hW).kp hK (fun e => by have := HTI.out.map.lt; have := XO1.out.lt; omega)
     obtain ⟨q0, q1, q2, q3, q4, q5, q6, q7, q8, q9⟩ := box10 hX
     exact ⟨hK.cell ((hW.cell (p := ⟨t, 0, none⟩) htd).trans hvd) (fun e => XD.out.map.ne hvd e), q0, q1, q2, q3, q4, q5, q6, q7, q8, q9, hkp2 W hW u⟩
   have hdr : Below Wd.heap.size Wd Wd.drew := (Below.refl _ _).drew
   go_region_held3 (fun W => W.cell? ⟨t, 0, none⟩ = some (.map (some bm)) ∧ W.cell? ⟨w1.heap.size, 0, none⟩ = some (.int .i64 b.kind) ∧ W.cell? ⟨w1.heap.size, 1, none⟩ = some (.slice Al1 b.lab.length cl1) ∧ W.cell? ⟨w1.heap.size, 2, none⟩ = some (.slice A6 (b.kids.length + 1) c6) ∧ W.cell? ⟨w1.heap.size, 3, none⟩ = some (.int .i64 (b.next + 1)) ∧ W.cell? ⟨w1.heap.size, 4, none⟩ = some (.slice Ab1 b.bytes.length cb1) ∧ W.cell? ⟨w1.heap.size, 5, none⟩ = some (.slice Ao1 b.own.length co1) ∧ W.cell? ⟨w1.heap.size, 6, none⟩ = some (.int .i64 b.cats) ∧ W.cell? ⟨w1.heap.size, 7, none⟩ = some (.slice Ae1 b.entry.length ce1) ∧ W.cell? ⟨w1.heap.size, 8, none⟩ = some (.int .i64 b.ring) ∧ W.cell? ⟨w1.heap.size, 9, none⟩ = some (.slice Am1 b.maps.length cm1) ∧ (∀ v, (Instr.mapUpdate 72 (.map (some bm)) (.string S) v).run Tryz.prog W = .ok () (putW bm (Pa.zText p) v W)))
     (first | with_reducible exact mkP _ _ D9.out | with_reducible exact mk _ D9.out | with_reducible exact mk _ hdr | with_reducible exact mk _ (Below.refl _ _))
     (first | (go_at_call 68; refine (R68e.out _ hdr).mono ?_; rintro e Wf ⟨rfl, hbf⟩; have D9 := Lib.hid (next_below hdr hbf); clear hbf))
   · clear hkp hkp2 mk mkP hdr
     go_wp2_with fail
     go_ret2
     have hXf := XD.out.on D9.out
     have hKf := HKD.out.andThen (Tp.Kp.of_below D9.out (fun _ => False)) fun _ _ h => h.elim
     have hq := (unfitR_zero (q := q) (HU.out.symm.trans H2.out)).2.1.2.2.2
     have hkbo : ∀ x, (Value.slice Ak1 b.kids.length ck1).ownBlock = some x → F x := fun x hx => HTI.out.inF _ _ HB.out x (by rw [← HKB.out]; exact hx)
     have hnew6 : ∀ x, (Value.slice A6 (b.kids.length + 1) c6).ownBlock = some x → (Value.slice Ak1 b.kids.length ck1).ownBlock = some x ∨ Wc.heap.size < x := fun x hx => A6h.out.elim (fun h => .inl (by rw [← h]; exact hx)) fun h => .inr (by rw [h] at hx; injection hx with hx; rw [← hx]; simp)
     have hwsz : w.heap.size ≤ Wc.heap.size := HKF.out.size
     have hS1 : (updT T s5 o) (Pa.zText p) = some b := by unfold updT; rw [if_neg HNE.out]; exact HB.out
     have hK1 : (updV K s5 vk3) (Pa.zText p) = .slice Ak1 b.kids.length ck1 := by unfold updV; rw [if_neg HNE.out]; exact HKB.out.symm
     have hlt3 := HC1.out.ltF
     obtain ⟨z1, z2⟩ := hXf.put (v := .agg #[.int .i64 b.kind, .slice Al1 b.lab.length cl1, .slice A6 (b.kids.length + 1) c6, .int .i64 (b.next + 1), .slice Ab1 b.bytes.length cb1, .slice Ao1 b.own.length co1, .int .i64 b.cats, .slice Ae1 b.entry.length ce1, .int .i64 b.ring, .slice Am1 b.maps.length cm1]) (vk := .slice A6 (b.kids.length + 1) c6) (o := addK b o.kind q) (by have := HN.out; omega) HLEN.out
       (wide_addK HWB.out HKL.out HW.out.kind ⟨by omega, by omega⟩ ⟨by omega, by omega⟩)
       (ObjK.addK (HOBK.out.kp hKf (fun _ _ h => h) (fun x hx h => h.elim (fun h => (f33.out x h).resolve_right (by omega)) (fun h => (hnew6 x h).elim (hkbo x) (fun h => by omega)))))
       (by have := own_on RD.out D9.out; simpa [addK] using this)
       (fun x hx => (hnew6 x hx).elim (fun h => .inr ⟨by rw [hS1]; rfl, by rw [hK1]; exact h⟩) fun h => .inl fun h3 => by have := hlt3 x h3; omega)
       (fun s' o' h1 h2 => (HC1.out.ob s' o' h1).kp (KC.out.andThen (Tp.Kp.of_below D9.out (fun _ => False)) fun _ _ h => h.elim) (fun _ _ h => h) (fun x hx h => h.elim id fun h => (hnew6 x h).elim (fun h => f31.out x (hkbo x h)) (fun h => by omega)))
       (fun hx => (hnew6 t hx).elim (fun h => HTI.out.notF (hkbo t h)) (fun h => by have := HTI.out.tlt; omega))
     have e : addT T p o q = updT (updT T s5 o) (Pa.zText p) (addK b o.kind q) := by unfold addT; rw [HAT.out, HS5.out, HCH.out]
     refine RetAdd.done HD.out rfl ⟨fun x => F3 x ∨ (Value.slice A6 (b.kids.length + 1) c6).ownBlock = some x, ⟨bm, _, _, by rw [e]; exact z1⟩, hKf.andThen z2 (fun i _ e => by rw [e]; exact HTI.out.isF), fun x hx => hx.elim (f33.out x) (fun h => (hnew6 x h).elim (fun h => .inl (hkbo x h)) (fun h => .inr (by omega)))⟩
end Go.Proofs.YtgcbfggoddkhnaaGreatDoor
namespace Go.Proofs.YtgcbfggoddkhnaaGreatDoor
open Go.RowKit
set_option maxRecDepth 100000 in
set_option maxHeartbeats 4000000 in
theorem add_none {w : World} {F G : Nat → Prop} {t n : Nat} {T : TT} {A : Option Addr} {c : Nat} {p : List Int} {v : Value} {o : Ob} {q : Int} (he : Env w) (ht : TabAt w F t n T) (hp : Pa.PL w A c p) (hpl : p.length ≤ 10000000) (hv : ObjAt w G v o) (hb : T (Pa.zText p) = none) :
  Calls Tryz.prog 25 #[.pointer (some ⟨t, 0, none⟩), .slice A p.length c, v, .int .i64 q] w (RetAdd w F t n T p o q) := by
 have R75 : Hid (∀ W, Below w.heap.size w W → Calls Tryz.prog 75 #[.pointer (some ⟨t, 0, none⟩), .slice A p.length c] W (RetFind W T (Pa.zText p))) := fun W hW => find_read (he.on hW) (ht.read hW) (hp.on hW) hpl
 have HD : Hid (addR T p o q = (-1, 30)) := by unfold Hid addR; rw [hb]
 have HT := Lib.hid ht
 obtain ⟨vk, ⟨vl, vb, vo, ve, vm, rfl, ⟨Al, cl, rfl, -⟩, ⟨Ab, cb, rfl, -⟩, ⟨Ao, co, rfl, -⟩, ⟨Ae, ce, rfl, -⟩, ⟨Am, cm, rfl, -⟩⟩, ⟨Ak, ck, rfl, -⟩⟩ := hv
 obtain ⟨cy, hcy⟩ : ∃ cs : Array Value, cs = #[.int .i64 o.kind, .slice Al o.lab.length cl, .slice Ak o.kids.length ck, .int .i64 o.next, .slice Ab o.bytes.length cb, .slice Ao o.own.length co, .int .i64 o.cats, .slice Ae o.entry.length ce, .int .i64 o.ring, .slice Am o.maps.length cm] := ⟨_, rfl⟩
 have B0 := Lib.hid ((Below.refl w.heap.size w).alloc (Nat.le_refl _) (.cells cy 29))
 have CY := Lib.hid hcy
 have H75 := Lib.hid (R75.out _ B0.out)
 unfold RetFind at H75
 rw [hcy, hb] at H75
 obtain ⟨was, hwas⟩ : ∃ o, o = atT T (Pa.zText p) := ⟨_, rfl⟩
 rw [← hwas] at H75
 clear he ht hp hpl hb hcy R75 hwas
 go_enter Tryz.func25, Tryz.ntmps25
 go_wp2_with fail
 refine H75.out.mono ?_
 rintro e w1 ⟨hb1, v1, rfl, hv1, hw1⟩
 rw [← CY.out] at hb1
 have B1 := Lib.hid (next_below B0.out hb1)
 obtain ⟨vk1, ⟨vl1, vb1, vo1, ve1, vm1, rfl, ⟨Al1, cl1, rfl, -⟩, ⟨Ab1, cb1, rfl, -⟩, ⟨Ao1, co1, rfl, -⟩, ⟨Ae1, ce1, rfl, -⟩, ⟨Am1, cm1, rfl, -⟩⟩, ⟨Ak1, ck1, rfl, -⟩⟩ := hv1
 have B2 : Hid (∀ O, Below w.heap.size w (w1.alloc O)) := fun O => next_below B1.out ((Below.refl _ _).alloc (Nat.le_refl _) O)
 clear hb1 hw1
 go_wp2_with fail
 go_ret2
 exact RetAdd.same HT.out (B2.out _) HD.out (by decide) rfl
theorem add_any {w : World} {F G : Nat → Prop} {t n : Nat} {T : TT} {L : Tab} {A : Option Addr} {c : Nat} {p : List Int} {v : Value} {o : Ob} {q : Int} (he : Env w) (ht : TabAt w F t n T) (hI : IsT T L) (hL : ValT L) (hF8 : ∀ x, F x → 8 ≤ x) (hn : n ≤ 10000000000) (hp : Pa.PL w A c p) (hpF : Sl w F A (Pa.zCellsOf p)) (hpl : p.length ≤ 10000000) (hv : ObjAt w G v o) (hw : WideO o) :
  Calls Tryz.prog 25 #[.pointer (some ⟨t, 0, none⟩), .slice A p.length c, v, .int .i64 q] w (RetAdd w F t n T p o q) := by
 cases hb : T (Pa.zText p) with
 | none => exact add_none he ht hp hpl hv hb
 | some b =>
  obtain ⟨bm, V, K, ht⟩ := ht
  exact add_some he ht hI hL hF8 hn hp hpF hpl hv hw hb
end Go.Proofs.YtgcbfggoddkhnaaGreatDoor
namespace Go.Proofs.YtgcbfggoddkhnaaGreatDoor
open Go.RowKit
def ob1 : Ob := ⟨1, [], [], 0, [], [], 0, [], 0, []⟩
def rootV : Value := .agg #[.int .i64 1, .slice none 0 0, .slice none 0 0, .int .i64 0, .slice none 0 0, .slice none 0 0, .int .i64 0, .slice none 0 0, .int .i64 0, .slice none 0 0]
theorem ob1_wide : WideO ob1 := { ob0_wide with kind := ⟨by decide, by decide⟩ }
theorem ob1_k (w : World) (F : Nat → Prop) : ObjK w F rootV (.slice none 0 0) ob1 :=
 ⟨_, _, _, _, _, rfl, SlV.nil _ _, SlV.nil _ _, SlV.nil _ _, SlV.nil _ _, MapsV.nil _ _⟩
def newT : TT := updT (fun _ => none) (Pa.zText []) ob1
theorem newT_is : IsT newT [([], ob1)] where
 at' := fun p => by
  unfold newT updT fnd
  by_cases e : [] = p
  · subst e; rw [if_pos rfl, if_pos rfl]
  · rw [if_neg (fun h => e (zText_inj h).symm), if_neg e]; rfl
 key := fun s o h => by
  unfold newT updT at h
  split at h
  · exact ⟨[], ‹_›⟩
  · cases h
theorem zText_nil_len : (Pa.zText []).length ≤ 100000000000 := by
 have := Pa.zText_len (zs := []) (fun _ h => by simp at h)
 have h0 : ([] : List Int).length = 0 := rfl
 rw [h0] at this
 omega
set_option maxRecDepth 100000 in
theorem new_is {w W W1 : World} {N t : Nat} (hB : Below w.heap.size w W) (hN : w.heap.size ≤ N) (hm : MapV W N 0 (fun _ => none) fun _ => undef) (hB1 : Below W.heap.size (putW N (Pa.zText []) rootV W) W1) (hv : W1.cell? ⟨t, 0, none⟩ = some (.map (some N))) :
   ∃ F, TabAt W1 F t 1 newT ∧ Stp w (fun _ => False) W1 F := by
 obtain ⟨_, h1, h2⟩ := hm.put (by omega) (s := Pa.zText []) zText_nil_len rootV
 have hK : Tp.Kp (fun b => b = N) W (putW N (Pa.zText []) rootV W) := (Tp.Kp.refl _ W).grown h2 fun k e _ => by injection e with e; exact e.symm
 have hm1 : MapV W1 N 1 newT (updV (fun _ => undef) (Pa.zText []) rootV) := (h1 ob1).of_block (hB1.block N hm.lt)
 refine ⟨fun x => x = N, ⟨N, updV (fun _ => undef) (Pa.zText []) rootV, fun _ => .slice none 0 0, ?_⟩, ?_, fun x hx => .inr (by subst hx; exact hN)⟩
 · refine { var := hv, map := hm1, wide := fun s o h => ?_, ob := fun s o h => ?_, row := fun s o h => ?_, isF := rfl, inF := fun s o h b hb => by simp [Value.ownBlock] at hb, ltF := fun b hb => by subst hb; exact hm1.lt, dist := fun s s' o o' h1 h2 hne b hb => by simp [Value.ownBlock] at hb, notF := fun e => hm1.ne hv e }
   · unfold newT updT at h
     split at h
     · injection h with h; subst h; exact ob1_wide
     · cases h
   · unfold newT updT at h
     unfold updV
     split at h
     · rename_i e
       injection h with h; subst h
       rw [if_pos e]
       exact ob1_k _ _
     · cases h
   · unfold newT updT at h
     split at h
     · injection h with h; subst h; exact World.ownsRow_nil _ _ _ _
     · cases h
 · have h3 : Below w.heap.size W (putW N (Pa.zText []) rootV W) := hK.below hB.size fun k e => by rw [e]; exact hN
   exact Tp.Kp.of_below ((hB.trans h3).trans (hB1.mono hB.size)) _
theorem put_box {W : World} {N b : Nat} {cs : Array Value} {ty : TypeId} (hm : MapV W N 0 (fun _ => none) fun _ => undef) (hX : BoxAt W b cs ty) (v : Value) : BoxAt (putW N (Pa.zText []) v W) b cs ty := by
 have hne : ¬ b = N := fun e => by
  obtain ⟨D, ⟨es, clock, h1, _⟩, _⟩ := hm
  unfold BoxAt at hX
  rw [e, h1] at hX
  cases hX
 have hK : Tp.Kp (fun b => b = N) W (putW N (Pa.zText []) v W) := (Tp.Kp.refl _ W).grown (hm.put (by omega) zText_nil_len v).2.2 fun k e _ => by injection e with e; exact e.symm
 exact hX.kp hK hne
theorem new_grown {W : World} {N : Nat} (hm : MapV W N 0 (fun _ => none) fun _ => undef) (v : Value) : W.heap.size ≤ (putW N (Pa.zText []) v W).heap.size := (hm.put (by omega) zText_nil_len v).2.2.size
theorem new_size {w W : World} {N : Nat} {v : Value} (hm : MapV W N 0 (fun _ => none) fun _ => undef) (hB : Below w.heap.size w W) : w.heap.size ≤ (putW N (Pa.zText []) v W).heap.size := Nat.le_trans hB.size (new_grown hm v)
theorem new_below {W : World} {N : Nat} {v : Value} {o : Obj} (hm : MapV W N 0 (fun _ => none) fun _ => undef) : Below W.heap.size (putW N (Pa.zText []) v W) ((putW N (Pa.zText []) v W).alloc o) := (Below.refl _ _).alloc (new_grown hm v) _
set_option maxRecDepth 100000 in
set_option maxHeartbeats 4000000 in
theorem new_any {w : World} (he : Env w) : Calls Tryz.prog 19 #[] w fun e w' => ∃ t, e = .returned (.pointer (some ⟨t, 0, none⟩)) ∧ w.heap.size ≤ t ∧ ∃ F, TabAt w' F t 1 newT ∧ Stp w (fun _ => False) w' F := by
 obtain ⟨cs, hcs⟩ : ∃ cs : Array Value, cs = #[.int .i64 1, .slice none 0 0, .slice none 0 0, .int .i64 0, .slice none 0 0, .slice none 0 0, .int .i64 0, .slice none 0 0, .int .i64 0, .slice none 0 0] := ⟨_, rfl⟩
 have B0 := Lib.hid ((Below.refl w.heap.size w).alloc (Nat.le_refl _) (.cells cs 29))
 have X0 := Lib.hid (BoxAt.new w cs 29)
 obtain ⟨S, hS⟩ : ∃ S, S = str (Pa.zText []) := ⟨_, rfl⟩
 have R68 : Hid (∀ W, Below w.heap.size w W → Calls Tryz.prog 68 #[.slice none 0 0] W (RetB W (.string S))) := fun W hW => by
   rw [hS]
   exact Pa.text_any (he.on hW) (Pa.pl_nil W).zs (Pa.pl_nil W).wide (by simp)
 have hkp : ∀ (W : World) (N : Nat), MapV W N 0 (fun _ => none) (fun _ => undef) → ∀ v, (Instr.mapUpdate 72 (.map (some N)) (.string S) v).run Tryz.prog W = .ok () (putW N (Pa.zText []) v W) := fun W N h v => by
   rw [hS]
   exact (h.put (by omega) zText_nil_len v).1
 have HKP := Lib.hid hkp
 have CS := Lib.hid hcs
 clear he hS hkp
 go_enter Tryz.func19, Tryz.ntmps19
 go_wp2_with fail
 have mk : ∀ W, BoxAt W w.heap.size cs 29 → W.cell? ⟨w.heap.size, 0, none⟩ = some (.int .i64 1) ∧ W.cell? ⟨w.heap.size, 1, none⟩ = some (.slice none 0 0) ∧ W.cell? ⟨w.heap.size, 2, none⟩ = some (.slice none 0 0) ∧ W.cell? ⟨w.heap.size, 3, none⟩ = some (.int .i64 0) ∧ W.cell? ⟨w.heap.size, 4, none⟩ = some (.slice none 0 0) ∧ W.cell? ⟨w.heap.size, 5, none⟩ = some (.slice none 0 0) ∧ W.cell? ⟨w.heap.size, 6, none⟩ = some (.int .i64 0) ∧ W.cell? ⟨w.heap.size, 7, none⟩ = some (.slice none 0 0) ∧ W.cell? ⟨w.heap.size, 8, none⟩ = some (.int .i64 0) ∧ W.cell? ⟨w.heap.size, 9, none⟩ = some (.slice none 0 0) := fun W hX => by
   rw [CS.out] at hX
   exact box10 hX
 have B0l : Below w.heap.size w (w.alloc (.cells #[.int .i64 1, .slice none 0 0, .slice none 0 0, .int .i64 0, .slice none 0 0, .slice none 0 0, .int .i64 0, .slice none 0 0, .int .i64 0, .slice none 0 0] 29)) := by rw [← CS.out]; exact B0.out
 have X0l : BoxAt (w.alloc (.cells #[.int .i64 1, .slice none 0 0, .slice none 0 0, .int .i64 0, .slice none 0 0, .slice none 0 0, .int .i64 0, .slice none 0 0, .int .i64 0, .slice none 0 0] 29)) w.heap.size cs 29 := by rw [← CS.out]; exact X0.out
 have BA : Below w.heap.size w ((w.alloc (.cells #[.int .i64 1, .slice none 0 0, .slice none 0 0, .int .i64 0, .slice none 0 0, .slice none 0 0, .int .i64 0, .slice none 0 0, .int .i64 0, .slice none 0 0] 29)).alloc (.map #[] 0)) := B0l.alloc (by simp) _
 have XA : BoxAt ((w.alloc (.cells #[.int .i64 1, .slice none 0 0, .slice none 0 0, .int .i64 0, .slice none 0 0, .slice none 0 0, .int .i64 0, .slice none 0 0, .int .i64 0, .slice none 0 0] 29)).alloc (.map #[] 0)) w.heap.size cs 29 := X0l.alloc _
 have MA : MapV ((w.alloc (.cells #[.int .i64 1, .slice none 0 0, .slice none 0 0, .int .i64 0, .slice none 0 0, .slice none 0 0, .int .i64 0, .slice none 0 0, .int .i64 0, .slice none 0 0] 29)).alloc (.map #[] 0)) (w.heap.size + 1) 0 (fun _ => none) fun _ => undef := by
   have := MapV.made (w.alloc (.cells #[.int .i64 1, .slice none 0 0, .slice none 0 0, .int .i64 0, .slice none 0 0, .slice none 0 0, .int .i64 0, .slice none 0 0, .int .i64 0, .slice none 0 0] 29))
   simpa using this
 have B0d := B0l.drew
 have X0d := X0l.drew
 have BAd := BA.drew
 have XAd := XA.drew
 have MAd : MapV ((w.alloc (.cells #[.int .i64 1, .slice none 0 0, .slice none 0 0, .int .i64 0, .slice none 0 0, .slice none 0 0, .int .i64 0, .slice none 0 0, .int .i64 0, .slice none 0 0] 29)).alloc (.map #[] 0)).drew (w.heap.size + 1) 0 (fun _ => none) fun _ => undef := MA.of_block rfl
 clear CS
 have hmm := @run_makeMap Tryz.prog
 go_region_held3 (fun W => W.cell? ⟨w.heap.size, 0, none⟩ = some (.int .i64 1) ∧ W.cell? ⟨w.heap.size, 1, none⟩ = some (.slice none 0 0) ∧ W.cell? ⟨w.heap.size, 2, none⟩ = some (.slice none 0 0) ∧ W.cell? ⟨w.heap.size, 3, none⟩ = some (.int .i64 0) ∧ W.cell? ⟨w.heap.size, 4, none⟩ = some (.slice none 0 0) ∧ W.cell? ⟨w.heap.size, 5, none⟩ = some (.slice none 0 0) ∧ W.cell? ⟨w.heap.size, 6, none⟩ = some (.int .i64 0) ∧ W.cell? ⟨w.heap.size, 7, none⟩ = some (.slice none 0 0) ∧ W.cell? ⟨w.heap.size, 8, none⟩ = some (.int .i64 0) ∧ W.cell? ⟨w.heap.size, 9, none⟩ = some (.slice none 0 0))
   (first | with_reducible exact mk _ ((Q1 _).alloc _) | with_reducible exact mk _ (Q1 _) | with_reducible exact mk _ ((X1.alloc _).alloc _) | with_reducible exact mk _ (X1.alloc _) | with_reducible exact mk _ X1 | with_reducible exact mk _ XAd | with_reducible exact mk _ X0d | with_reducible exact mk _ XA | with_reducible exact mk _ X0l)
   (first
    | (go_at_call 68; refine (R68.out _ BAd).mono ?_; rintro e W1 ⟨rfl, hb1⟩; have X1 := XAd.on hb1; have M1 := MAd.on hb1; have run1 := HKP.out W1 (w.heap.size + 1) M1; have Q1 := put_box M1 X1)
    | (go_at_call 68; refine (R68.out _ B0d).mono ?_; rintro e W1 ⟨rfl, hb1⟩; have X1 := X0d.on hb1; have M1 := MapV.made W1; have run1 := HKP.out _ _ M1; have Q1 := put_box M1 (X1.alloc _)))
 · have hB := next_below BAd hb1
   go_wp2_with fail
   go_ret
   exact ⟨_, rfl, new_size M1 hB, new_is hB (Nat.le_succ _) M1 (new_below M1) ((BoxAt.new _ _ _).cell (k := 0) rfl)⟩
 · have hB : Below w.heap.size w (W1.alloc (.map #[] 0)) := (next_below B0d hb1).alloc (next_below B0d hb1).size _
   go_wp2_with fail
   go_ret
   exact ⟨_, rfl, new_size M1 hB, new_is hB (next_below B0d hb1).size M1 (new_below M1) ((BoxAt.new _ _ _).cell (k := 0) rfl)⟩
end Go.Proofs.YtgcbfggoddkhnaaGreatDoor
namespace Go.Proofs.YtgcbfggoddkhnaaGreatDoor
open Go.RowKit
theorem dropK_same {l : List Kd} {n : Int} (h : ∀ k ∈ l, k.1 ≠ n) : dropK l n = l := by
 unfold dropK
 exact List.filter_eq_self.2 fun k hk => by simpa using h k hk
theorem dropK_erase : ∀ {l : List Kd} {m : Nat} {k : Kd} {n : Int}, l.Pairwise (fun a b => a.1 < b.1) → l[m]? = some k → k.1 = n → dropK l n = l.take m ++ l.drop (m + 1)
 | [], m, k, n, _, h, _ => by simp at h
 | x :: r, 0, k, n, hp, h, hn => by
  simp at h
  subst h
  have hr : dropK r n = r := dropK_same fun y hy => by have := (List.pairwise_cons.1 hp).1 y hy; omega
  have e : dropK (x :: r) n = dropK r n := by unfold dropK; rw [List.filter_cons]; simp [hn]
  rw [e, hr]
  simp
 | x :: r, m + 1, k, n, hp, h, hn => by
  have h1 : r[m]? = some k := by simpa using h
  have ih := dropK_erase (l := r) (m := m) (List.pairwise_cons.1 hp).2 h1 hn
  have hx : x.1 ≠ n := by have := (List.pairwise_cons.1 hp).1 k (List.mem_of_getElem? h1); omega
  have e : dropK (x :: r) n = x :: dropK r n := by unfold dropK; rw [List.filter_cons]; simp [hx]
  rw [e, ih]
  simp
theorem ix_there {l : List Kd} {n z : Int} {k : Kd} (h : IxOut l n z) (hk : k ∈ l) (hn : k.1 = n) : ∃ (m : Nat) (k : Kd), z = (m : Int) ∧ l[m]? = some k ∧ k.1 = n := by
 rcases h with ⟨_, h⟩ | ⟨m, x, h1, h2, h3, _⟩
 · exact (h k hk hn).elim
 · exact ⟨m, x, h1, h2, h3⟩
end Go.Proofs.YtgcbfggoddkhnaaGreatDoor
namespace Go.Proofs.YtgcbfggoddkhnaaGreatDoor
open Go.RowKit
noncomputable def allotR (T : TT) (p : List Int) (q : Int) : Int := match T (Pa.zText p) with
 | none => 30
 | some o => if p ≠ [] ∧ 0 ≤ q ∧ q ≤ 1048576 then (if uses o ≤ q ∧ uses (allotK (atT T (Pa.zText p.dropLast)) (p.getLastD 0) q) ≤ quotaP (atP T) p.dropLast then 0 else 33) else 2
def allotT (T : TT) (p : List Int) (q : Int) : TT := updT T (Pa.zText p.dropLast) (allotK (atT T (Pa.zText p.dropLast)) (p.getLastD 0) q)
def RetAllot (w : World) (F : Nat → Prop) (t n : Nat) (T : TT) (p : List Int) (q : Int) (e : Ending) (w' : World) : Prop :=
 e = .returned (.int .i64 (allotR T p q)) ∧ ∃ F', TabAt w' F' t (n + 1) (if allotR T p q = 0 then allotT T p q else T) ∧ Stp w F w' F'
theorem RetAllot.same {w w' : World} {F : Nat → Prop} {t n : Nat} {T : TT} {p : List Int} {q : Int} {e : Ending} {z : Int} (ht : TabAt w F t n T) (hb : Below w.heap.size w w') (hz : allotR T p q = z) (h0 : z ≠ 0) (he : e = .returned (.int .i64 z)) : RetAllot w F t n T p q e w' := by
 subst hz
 exact ⟨he, F, by rw [if_neg h0]; exact (ht.on hb).more (by omega), Stp.of_below hb⟩
end Go.Proofs.YtgcbfggoddkhnaaGreatDoor
namespace Go.Proofs.YtgcbfggoddkhnaaGreatDoor
open Go.RowKit
theorem ObjK.same {w : World} {F : Nat → Prop} {vl vk vb vo ve vm vk' : Value} {b : Ob} (h : ObjK w F (.agg #[.int .i64 b.kind, vl, vk, .int .i64 b.next, vb, vo, .int .i64 b.cats, ve, .int .i64 b.ring, vm]) vk b) :
  ObjK w F (.agg #[.int .i64 b.kind, vl, vk', .int .i64 b.next, vb, vo, .int .i64 b.cats, ve, .int .i64 b.ring, vm]) vk' b := by
 obtain ⟨vl', vb', vo', ve', vm', e, h1, h2, h3, h4, h5⟩ := h
 simp at e
 obtain ⟨rfl, rfl, rfl, rfl, rfl⟩ := e
 exact ⟨_, _, _, _, _, rfl, h1, h2, h3, h4, h5⟩
theorem row_cell {w : World} {base : Nat} {e : TypeId} {size : Nat} {v : Value} {n : Nat} {xs : List Value} (h : w.ownsRow base e size v n xs) (hn : 0 < n) : ∃ g c, v = .slice (some ⟨g, 0, none⟩) n c ∧ base ≤ g ∧ g < w.heap.size ∧ (∀ j u, xs[j]? = some u → w.cell? ⟨g, j, none⟩ = some u) ∧ ∀ j, w.frozen? ⟨g, j, none⟩ = false := by
 rcases h.2 with ⟨_, h0⟩ | ⟨g, cap, cur, rfl, hb, hh, _, _, _, ht⟩
 · omega
 · refine ⟨g, cap, rfl, hb, (Array.getElem?_eq_some_iff.1 hh).1, fun j u hu => ?_, fun j => by simp [World.frozen?, hh]⟩
   rw [← ht] at hu
   have h1 : cur.toList[j]? = some u := by
    rw [List.getElem?_take] at hu
    split at hu
    · exact hu
    · cases hu
   simp [World.cell?, hh]
   simpa using h1
end Go.Proofs.YtgcbfggoddkhnaaGreatDoor
