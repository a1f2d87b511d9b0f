/- Lemmas for the law: Rw, Rx, Rf, Rg. -/
import Derived.Test.YtgcbfggoddkhnaaGreatDoorM13
import Derived.Test.YtgcbfggoddkhnaaGreatDoorM23
import Derived.Lib.QuietBelow
import Derived.BigQuiet
import Derived.Test.YtgcbfggoddkhnaaGreatDoorM04
import Derived.Test.YtgcbfggoddkhnaaGreatDoorM08
namespace Go.Proofs.YtgcbfggoddkhnaaGreatDoor
open Go.RowKit
open Pa (encZ zBytes)
open Go.Lib Go.Sort
theorem addS (a b : List Nat) (h : a.length + b.length ≤ 20000000) (W : World) : (Op.stringOp .add (Tp.str a) (Tp.str b)).run Tryz.prog W = .ok (.string (Tp.str (a ++ b))) W := by
 rw [← Tp.str_append]
 exact Tp.add_str W (by rw [Tp.str_size]; omega) (by rw [Tp.str_size]; omega)
set_option maxRecDepth 100000 in
theorem refFlag_any (b : Bool) (w : World) : Calls Tryz.prog 50 #[.bool b] w (RetB w (.string (Tp.str (encZ (if b then 1 else 0))))) := by
 have h1 : Tp.str (encZ 1) = ⟨#[1]⟩ := by unfold Pa.encZ; rw [if_pos (by decide), show (1 : Int).toNat = 1 from rfl, Tp.enc_small (by decide)]; rfl
 have h0 : Tp.str (encZ 0) = ⟨#[0]⟩ := by unfold Pa.encZ; rw [if_pos (by decide), show (0 : Int).toNat = 0 from rfl, Tp.enc_small (by decide)]; rfl
 cases b
 · rw [if_neg (by decide), h0]
   clear h0 h1
   go_enter Tryz.func50, Tryz.ntmps50
   go_wp2_with fail
   go_ret
   exact ⟨rfl, Below.refl _ _⟩
 · rw [if_pos rfl, h1]
   clear h0 h1
   go_enter Tryz.func50, Tryz.ntmps50
   go_wp2_with fail
   go_ret
   exact ⟨rfl, Below.refl _ _⟩
theorem quietB {w : World} {f : FuncId} {args : Array Value} {v : Value} (h : ∀ W, Below w.heap.size w W → Calls Tryz.prog f args W (RetB W v)) (d : Nat) (os : Array Obj) :
  Calls Tryz.prog f args (Sort.grow (redrawn w d) os) fun e w' => e = .returned v ∧ ∃ r : Regrown, w' = Sort.grow (redrawn w r.d) r.os :=
 (h _ (below_regrown w d os)).mono fun _ _ h2 => ⟨h2.1, regrown_of_below ((below_regrown w d os).trans (h2.2.mono (below_regrown w d os).size))⟩
def RpS (w : World) {α : Type} (N : Nat) (pre : List Nat) (f : α → List Nat) (l : List α) (k : Nat) (s i : Value) (wr : World) : Prop :=
 ∃ m, m + k = N ∧ i = .int .i64 (m : Int) ∧ s = .string (Tp.str (pre ++ (l.take m).flatMap f)) ∧ Below w.heap.size w wr
theorem flat_step {α : Type} {l : List α} {m : Nat} {x : α} (h : l[m]? = some x) (f : α → List Nat) : (l.take (m + 1)).flatMap f = (l.take m).flatMap f ++ f x := by
 rw [List.take_add_one, h, List.flatMap_append]
 simp
set_option maxRecDepth 100000 in
set_option maxHeartbeats 4000000 in
theorem refPut9_any {w : World} {F : Nat → Prop} {v : Value} {o : Ob} (h : ObjAt w F v o) (hw : WideO o) (hB : (obBytes o).length ≤ 20000000) : Calls Tryz.prog 11 #[v] w (RetB w (.string (Tp.str (obBytes o)))) := by
 obtain ⟨vk, ⟨vl, vb, vo, ve, vm, rfl, ⟨Al, cl, rfl, hl1, hl2, hl3⟩, ⟨Ab, cb, rfl, hb1, hb2, hb3⟩, ⟨Ao, co, rfl, ho1, ho2, ho3⟩, ⟨Ae, ce, rfl, he1, he2, he3⟩, ⟨Am, cm, rfl, hm1, hm2, hm3⟩⟩, ⟨Ak, ck, rfl, hk1, hk2, hk3⟩⟩ := h
 have N45 := Lib.hid (fun (z : Int) (W : World) => refNum_any z W)
 have HSL := Lib.hid hl3.ents
 have HSE := Lib.hid he3.ents
 have HSO := Lib.hid ho3.strs
 have HSB := Lib.hid hb3.bts
 have HSK := Lib.hid hk3
 have HSM := Lib.hid hm3
 have HW := Lib.hid hw
 have hT : o.kind = o.kind := rfl
 have hlen : (encZ o.kind).length + ((labBytes o.lab).length + ((Tp.enc o.kids.length).length + (o.kids.flatMap kidBytes).length + ((encZ o.next).length + ((Tp.enc o.bytes.length).length + o.bytes.length + ((ownBytes o.own).length + ((encZ o.cats).length + ((labBytes o.entry).length + ((encZ o.ring).length + ((Tp.enc o.maps.length).length + (o.maps.flatMap mapBytes).length))))))))) ≤ 20000000 := by
  unfold obBytes at hB
  simp only [List.length_append] at hB
  omega
 have HLN := Lib.hid hlen
 have e0 : ∀ n : Nat, n ≤ 1048576 → encZ (n : Int) = Tp.enc n := fun n hn => by unfold Pa.encZ; rw [if_pos (by omega), Int.toNat_natCast]
 have HE0 := Lib.hid e0
 have HPB : Hid (obBytes o = (((encZ o.kind ++ labBytes o.lab) ++ Tp.enc o.kids.length) ++ o.kids.flatMap kidBytes) ++ ((((((encZ o.next ++ (Tp.enc o.bytes.length ++ o.bytes)) ++ ownBytes o.own) ++ encZ o.cats) ++ labBytes o.entry) ++ encZ o.ring) ++ Tp.enc o.maps.length) ++ o.maps.flatMap mapBytes) := by
  unfold Hid obBytes
  simp only [List.append_assoc]
 rw [HPB.out]
 obtain ⟨zk, hzk⟩ : ∃ z, z = o.kind := ⟨_, rfl⟩
 obtain ⟨zn, hzn⟩ : ∃ z, z = o.next := ⟨_, rfl⟩
 obtain ⟨zc, hzc⟩ : ∃ z, z = o.cats := ⟨_, rfl⟩
 obtain ⟨zr, hzr⟩ : ∃ z, z = o.ring := ⟨_, rfl⟩
 obtain ⟨nl, hnl⟩ : ∃ z, z = o.lab.length := ⟨_, rfl⟩
 obtain ⟨nk, hnk⟩ : ∃ z, z = o.kids.length := ⟨_, rfl⟩
 obtain ⟨nb, hnb⟩ : ∃ z, z = o.bytes.length := ⟨_, rfl⟩
 obtain ⟨no, hno⟩ : ∃ z, z = o.own.length := ⟨_, rfl⟩
 obtain ⟨ne, hne⟩ : ∃ z, z = o.entry.length := ⟨_, rfl⟩
 obtain ⟨nm, hnm⟩ : ∃ z, z = o.maps.length := ⟨_, rfl⟩
 have hN : nk ≤ 1048576 ∧ nm ≤ 1048576 := ⟨by rw [hnk]; exact hw.kids.1, by rw [hnm]; exact hw.maps.1⟩
 rw [← hnk, ← hnm, ← hnb] at hlen
 have HLN := Lib.hid hlen
 have C46 : Hid (∀ W, Below w.heap.size w W → Calls Tryz.prog 46 #[.slice Al nl cl] W (RetB W (.string (Tp.str (labBytes o.lab))))) := fun W hW => by
  rw [hnl]; exact refPut6_any ((HSL.out.below hW).more hW.size) (by have := HLN.out; omega)
 have C46e : Hid (∀ W, Below w.heap.size w W → Calls Tryz.prog 46 #[.slice Ae ne ce] W (RetB W (.string (Tp.str (labBytes o.entry))))) := fun W hW => by
  rw [hne]; exact refPut6_any ((HSE.out.below hW).more hW.size) (by have := HLN.out; omega)
 have C48 : Hid (∀ W, Below w.heap.size w W → Calls Tryz.prog 48 #[.slice Ao no co] W (RetB W (.string (Tp.str (ownBytes o.own))))) := fun W hW => by
  rw [hno]; exact refPut7_any ((HSO.out.below hW).more hW.size) (by have := HLN.out; omega)
 obtain ⟨bl, hbl⟩ : ∃ b, b = labBytes o.lab := ⟨_, rfl⟩
 obtain ⟨be, hbe⟩ : ∃ b, b = labBytes o.entry := ⟨_, rfl⟩
 obtain ⟨bo, hbo⟩ : ∃ b, b = ownBytes o.own := ⟨_, rfl⟩
 have CV : Hid (∀ W, Below w.heap.size w W → (convert 25 9 (.slice Ab nb cb)).run Tryz.prog W = .ok (.string (Tp.str o.bytes)) W) := fun W hW => by
  rw [hnb]; exact Tp.conv_str (bts_more (HSB.out.below hW) hW.size) cb
 have C47 : Hid (∀ W, Calls Tryz.prog 47 #[.string (Tp.str o.bytes)] W (RetB W (.string (Tp.str (Tp.enc nb ++ o.bytes))))) := fun W => by
  have h1 := Tp.ref_text2 W (Tp.str o.bytes) (by rw [Tp.str_size, ← hnb]; have := HLN.out; omega)
  have h2 : Tp.txt (Tp.str o.bytes) = Tp.enc nb ++ o.bytes := by
   unfold Tp.txt
   rw [Tp.str_size, Tp.bys_str HW.out.bytes.2, hnb]
  rwa [h2] at h1
 rw [← hbl] at C46
 rw [← hbe] at C46e
 rw [← hbo] at C48
 rw [← hbl, ← hbe, ← hbo] at hlen
 rw [← hzk, ← hzn, ← hzc, ← hzr] at hlen
 rw [← hnk, ← hnm, ← hnb, ← hzk, ← hzn, ← hzc, ← hzr, ← hbl, ← hbe, ← hbo]
 have HNK := Lib.hid (⟨hnk, hnm⟩ : nk = o.kids.length ∧ nm = o.maps.length)
 have HN := Lib.hid hN
 have HNBY := Lib.hid hnb
 have HLN := Lib.hid hlen
 rw [← hnl, ← hne, ← hno]
 clear hT hlen e0 hw hB hl1 hl2 hl3 hb1 hb2 hb3 ho1 ho2 ho3 he1 he2 he3 hm1 hm2 hm3 hk1 hk2 hk3 hzk hzn hzc hzr hnl hnb hno hne hnk hnm hbl hbe hbo HPB HSL HSE HSO HSB hN
 obtain ⟨w0, hw0⟩ : ∃ W, W = w.alloc (.cells #[.int .i64 zk, .slice Al nl cl, .slice Ak nk ck, .int .i64 zn, .slice Ab nb cb, .slice Ao no co, .int .i64 zc, .slice Ae ne ce, .int .i64 zr, .slice Am nm cm] 29) := ⟨_, rfl⟩
 obtain ⟨bx, hbx⟩ : ∃ b, b = w.heap.size := ⟨_, rfl⟩
 have X0 : BoxAt w0 bx #[.int .i64 zk, .slice Al nl cl, .slice Ak nk ck, .int .i64 zn, .slice Ab nb cb, .slice Ao no co, .int .i64 zc, .slice Ae ne ce, .int .i64 zr, .slice Am nm cm] 29 := by rw [hw0, hbx]; exact BoxAt.new _ _ _
 have B0 : Below w.heap.size w w0 := by rw [hw0]; exact (Below.refl _ _).alloc (Nat.le_refl _) _
 go_enter Tryz.func11, Tryz.ntmps11
 go_wp2_with fail
 rw [← hw0, ← hbx]
 clear hw0 hbx
 obtain ⟨k0, k1, k2, k3, k4, k5, k6, k7, k8, k9⟩ := box10 X0
 have g0 := cell_regrown k0
 have g1 := cell_regrown k1
 have g2 := cell_regrown k2
 have HX0 := Lib.hid X0
 have HB0 := Lib.hid B0
 have D45 : Hid (∀ z d os, Calls Tryz.prog 45 #[.int .i64 z] (Sort.grow (redrawn w0 d) os) fun e w' => e = .returned (.string (Tp.str (encZ z))) ∧ ∃ r : Regrown, w' = Sort.grow (redrawn w0 r.d) r.os) := fun z d os => quietB (fun W _ => N45.out z W) d os
 have D46 : Hid (∀ d os, Calls Tryz.prog 46 #[.slice Al nl cl] (Sort.grow (redrawn w0 d) os) fun e w' => e = .returned (.string (Tp.str bl)) ∧ ∃ r : Regrown, w' = Sort.grow (redrawn w0 r.d) r.os) := quietB fun W hW => C46.out W (next_below HB0.out hW)
 have a1 := addS (encZ zk) bl (by have := HLN.out; omega)
 have a2 := addS (encZ zk ++ bl) (Tp.enc nk) (by have := HLN.out; rw [List.length_append]; omega)
 rw [← HE0.out nk HN.out.1] at a2
 obtain ⟨S0, hS0⟩ : ∃ S, S = Tp.str (encZ zk) := ⟨_, rfl⟩
 obtain ⟨S1, hS1⟩ : ∃ S, S = Tp.str bl := ⟨_, rfl⟩
 obtain ⟨S2, hS2⟩ : ∃ S, S = Tp.str (encZ zk ++ bl) := ⟨_, rfl⟩
 obtain ⟨S3, hS3⟩ : ∃ S, S = Tp.str (encZ (nk : Int)) := ⟨_, rfl⟩
 obtain ⟨S4, hS4⟩ : ∃ S, S = Tp.str (encZ zk ++ bl ++ encZ (nk : Int)) := ⟨_, rfl⟩
 rw [← hS0, ← hS1, ← hS2] at a1
 rw [← hS2, ← hS3, ← hS4] at a2
 rw [← hS1] at D46
 have D1 := D45.out zk
 have D2 := D45.out (nk : Int)
 rw [← hS0] at D1
 rw [← hS3] at D2
 have D1 := Lib.hid D1
 have D2 := Lib.hid D2
 rw [HE0.out nk HN.out.1] at hS4
 have HS4 := Lib.hid hS4
 clear hS0 hS1 hS2 hS3 hS4 X0 B0 D45
 refine wp_region_quiet_below (by kernel_rfl) (by kernel_rfl) ?_
 repeat (go_big_quiet_step (first | with_reducible exact D46.out _ _ | with_reducible exact D1.out _ _ | with_reducible exact D2.out _ _))
 refine wpQuiet_nil ?_
 rintro _ ⟨⟨dq, osq⟩, rfl⟩
 have hbw := below_regrown w0 dq osq
 obtain ⟨w1, hw1⟩ : ∃ W, W = Sort.grow (redrawn w0 dq) osq := ⟨_, rfl⟩
 rw [← hw1] at hbw ⊢
 clear hw1
 have X1 := HX0.out.on hbw
 have B1 := Lib.hid (next_below HB0.out hbw)
 clear k0 k1 k2 k3 k4 k5 k6 k7 k8 k9 g0 g1 g2 a1 a2 D1 D2 D46 hbw
 obtain ⟨k0, k1, k2, k3, k4, k5, k6, k7, k8, k9⟩ := box10 X1
 have HX1 := Lib.hid X1
 clear X1
 go_wp2_with fail
 have HPRE : Hid (∀ m, (encZ zk ++ bl ++ Tp.enc nk ++ (o.kids.take m).flatMap kidBytes).length + ((encZ zn).length + ((Tp.enc nb).length + nb + (bo.length + ((encZ zc).length + (be.length + ((encZ zr).length + ((Tp.enc nm).length + (o.maps.flatMap mapBytes).length))))))) ≤ 20000000) := fun m => by
  have h1 := HLN.out
  have h2 := flat_take kidBytes o.kids m
  simp only [List.length_append]
  omega
 go_loopg [3, 23] nk (fun k s i wr => RpS w1 nk (encZ zk ++ bl ++ Tp.enc nk) kidBytes o.kids k s i wr)
 case atStart => exact ⟨0, by simp, rfl, by rw [HS4.out]; simp, Below.refl _ _⟩
 case round =>
  obtain ⟨m, hmk, hi, hs, hbr⟩ := hrel
  subst hi hs
  have HMK := Lib.hid hmk
  have BR := Lib.hid hbr
  have XR := HX1.out.on hbr
  cases gk with
  | succ j =>
   have hm : m < nk := by omega
   have hmlt : (m : Int) < nk := by omega
   have hNk : nk ≤ 1048576 := HN.out.1
   obtain ⟨x, hx⟩ : ∃ x, o.kids[m]? = some x := ⟨_, List.getElem?_eq_getElem (by rw [← HNK.out.1]; exact hm)⟩
   obtain ⟨q0, q1, q2⟩ := kidCells_at hx
   obtain ⟨b, off, rfl, -, hlt, hcell⟩ := HSK.out (by have := (List.getElem?_eq_some_iff.1 q0).1; omega)
   have hbw := next_below B1.out hbr
   have c0 := (hbw.cell (p := ⟨b, off + m * 3, none⟩) hlt).trans (hcell _ _ q0)
   have c1 := (hbw.cell (p := ⟨b, off + (m * 3 + 1), none⟩) hlt).trans (hcell _ _ q1)
   have c2 := (hbw.cell (p := ⟨b, off + (m * 3 + 2), none⟩) hlt).trans (hcell _ _ q2)
   rw [← Nat.add_assoc] at c1 c2
   obtain ⟨za, hza⟩ : ∃ z, z = x.1 := ⟨_, rfl⟩
   obtain ⟨zb, hzb⟩ : ∃ z, z = x.2.1 := ⟨_, rfl⟩
   obtain ⟨zd, hzd⟩ : ∃ z, z = x.2.2 := ⟨_, rfl⟩
   rw [← hza] at c0
   rw [← hzb] at c1
   rw [← hzd] at c2
   have hKB : kidBytes x = encZ za ++ (encZ zb ++ encZ zd) := by rw [hza, hzb, hzd]; rfl
   obtain ⟨W0, hW0⟩ : ∃ W, W = wr.alloc (.cells #[.int .i64 za, .int .i64 zb, .int .i64 zd] 85) := ⟨_, rfl⟩
   obtain ⟨by0, hby⟩ : ∃ y, y = wr.heap.size := ⟨_, rfl⟩
   have hbn : Below wr.heap.size wr W0 := by rw [hW0]; exact (Below.refl _ _).alloc (Nat.le_refl _) _
   have r0 : W0.cell? ⟨by0, 0, none⟩ = some (.int .i64 za) := by rw [hW0, hby]; simp
   have r1 : W0.cell? ⟨by0, 1, none⟩ = some (.int .i64 zb) := by rw [hW0, hby]; simp
   have r2 : W0.cell? ⟨by0, 2, none⟩ = some (.int .i64 zd) := by rw [hW0, hby]; simp
   have g0 := cell_regrown r0
   have g1 := cell_regrown r1
   have g2 := cell_regrown r2
   obtain ⟨pb, hpb⟩ : ∃ p, p = encZ zk ++ bl ++ Tp.enc nk ++ (o.kids.take m).flatMap kidBytes := ⟨_, rfl⟩
   have hnx : encZ zk ++ bl ++ Tp.enc nk ++ (o.kids.take (m + 1)).flatMap kidBytes = pb ++ (encZ za ++ encZ zb ++ encZ zd) := by
    rw [flat_step hx, hKB, hpb]
    simp only [List.append_assoc]
   have hln := HPRE.out (m + 1)
   rw [hnx] at hln
   simp only [List.length_append] at hln
   have a1 := addS (encZ za) (encZ zb) (by omega)
   have a2 := addS (encZ za ++ encZ zb) (encZ zd) (by rw [List.length_append]; omega)
   have a3 := addS pb (encZ za ++ encZ zb ++ encZ zd) (by simp only [List.length_append]; omega)
   rw [← hnx] at a3
   have D1 := fun d os => quietB (w := W0) (fun W _ => N45.out za W) d os
   have D2 := fun d os => quietB (w := W0) (fun W _ => N45.out zb W) d os
   have D3 := fun d os => quietB (w := W0) (fun W _ => N45.out zd W) d os
   rw [← hpb]
   obtain ⟨SP, hSP⟩ : ∃ S, S = Tp.str pb := ⟨_, rfl⟩
   obtain ⟨SN, hSN⟩ : ∃ S, S = Tp.str (encZ zk ++ bl ++ Tp.enc nk ++ (o.kids.take (m + 1)).flatMap kidBytes) := ⟨_, rfl⟩
   rw [← hSP, ← hSN] at a3
   rw [← hSP]
   have HSN := Lib.hid hSN
   obtain ⟨SA, hSA⟩ : ∃ S, S = Tp.str (encZ za) := ⟨_, rfl⟩
   obtain ⟨SB, hSB⟩ : ∃ S, S = Tp.str (encZ zb) := ⟨_, rfl⟩
   obtain ⟨SC, hSC⟩ : ∃ S, S = Tp.str (encZ zd) := ⟨_, rfl⟩
   obtain ⟨SD, hSD⟩ : ∃ S, S = Tp.str (encZ za ++ encZ zb) := ⟨_, rfl⟩
   obtain ⟨SE, hSE⟩ : ∃ S, S = Tp.str (encZ za ++ encZ zb ++ encZ zd) := ⟨_, rfl⟩
   rw [← hSA, ← hSB, ← hSD] at a1
   rw [← hSD, ← hSC, ← hSE] at a2
   rw [← hSE] at a3
   rw [← hSA] at D1
   rw [← hSB] at D2
   rw [← hSC] at D3
   have D1 := Lib.hid D1
   have D2 := Lib.hid D2
   have D3 := Lib.hid D3
   have BN := Lib.hid (next_below BR.out hbn)
   clear hmk hbr XR hx q0 q1 q2 hcell hbw hza hzb hzd hKB hbn hpb hnx hln hSP hSN hSA hSB hSC hSD hSE r0 r1 r2
   go_wp2_with fail
   rw [← hW0, ← hby]
   clear hW0 hby c0 c1 c2
   refine wp_region_quiet_below (by kernel_rfl) (by kernel_rfl) ?_
   repeat (go_big_quiet_step (first | with_reducible exact D1.out _ _ | with_reducible exact D2.out _ _ | with_reducible exact D3.out _ _))
   refine wpQuiet_nil ?_
   rintro _ ⟨⟨dq, osq⟩, rfl⟩
   have B9 := Lib.hid (next_below BN.out (below_regrown W0 dq osq))
   clear g0 g1 g2 a1 a2 a3
   go_wp2_with fail
   go_roundg j
   case measure => omega
   case rel =>
    obtain ⟨hN1, hN2⟩ := HN.out
    exact ⟨m + 1, by have := HMK.out; omega, by go_num, by rw [HSN.out], B9.out⟩
  | zero =>
   have hmn : m = nk := by omega
   subst hmn
   have hge : ¬ (m : Int) < m := by omega
   have htk : o.kids.take m = o.kids := List.take_of_length_le (by rw [← HNK.out.1]; exact Nat.le_refl _)
   rw [htk]
   have hln := HPRE.out m
   rw [htk] at hln
   have bw := next_below B1.out hbr
   obtain ⟨k0, k1, k2, k3, k4, k5, k6, k7, k8, k9⟩ := box10 XR
   have g3 := cell_regrown k3
   have g4 := cell_regrown k4
   have g5 := cell_regrown k5
   have g6 := cell_regrown k6
   have g7 := cell_regrown k7
   have g8 := cell_regrown k8
   have g9 := cell_regrown k9
   obtain ⟨pb, hpb⟩ : ∃ p, p = encZ zk ++ bl ++ Tp.enc m ++ o.kids.flatMap kidBytes := ⟨_, rfl⟩
   rw [← hpb] at hln ⊢
   have cv : ∀ d os, (convert 25 9 (.slice Ab nb cb)).run Tryz.prog (Sort.grow (redrawn wr d) os) = .ok (.string (Tp.str o.bytes)) (Sort.grow (redrawn wr d) os) := fun d os => CV.out _ (next_below bw (below_regrown wr d os))
   obtain ⟨bb, hbb⟩ : ∃ b, b = Tp.enc nb ++ o.bytes := ⟨_, rfl⟩
   have hbbl : (Tp.enc nb).length + nb = bb.length := by rw [hbb, List.length_append, ← HNBY.out]
   rw [hbbl, ← HE0.out nm HN.out.2] at hln
   have D1 := fun d os => quietB (w := wr) (fun W _ => N45.out zn W) d os
   have D2 := fun d os => quietB (w := wr) (fun W _ => C47.out W) d os
   rw [← hbb] at D2
   have D3 := fun d os => quietB (w := wr) (fun W hW => C48.out W (next_below bw hW)) d os
   have D4 := fun d os => quietB (w := wr) (fun W _ => N45.out zc W) d os
   have D5 := fun d os => quietB (w := wr) (fun W hW => C46e.out W (next_below bw hW)) d os
   have D6 := fun d os => quietB (w := wr) (fun W _ => N45.out zr W) d os
   have D7 := fun d os => quietB (w := wr) (fun W _ => N45.out (nm : Int) W) d os
   have hHB := Lib.hid hbb
   clear hbb hbbl
   obtain ⟨x1, hx1⟩ : ∃ x, x = encZ zn := ⟨_, rfl⟩
   obtain ⟨x4, hx4⟩ : ∃ x, x = encZ zc := ⟨_, rfl⟩
   obtain ⟨x6, hx6⟩ : ∃ x, x = encZ zr := ⟨_, rfl⟩
   obtain ⟨x7, hx7⟩ : ∃ x, x = encZ (nm : Int) := ⟨_, rfl⟩
   rw [← hx1, ← hx4, ← hx6, ← hx7] at hln
   rw [← hx1] at D1
   rw [← hx4] at D4
   rw [← hx6] at D6
   rw [← hx7] at D7
   have a1 := addS x1 bb (by omega)
   have a2 := addS (x1 ++ bb) bo (by simp only [List.length_append]; omega)
   have a3 := addS (x1 ++ bb ++ bo) x4 (by simp only [List.length_append]; omega)
   have a4 := addS (x1 ++ bb ++ bo ++ x4) be (by simp only [List.length_append]; omega)
   have a5 := addS (x1 ++ bb ++ bo ++ x4 ++ be) x6 (by simp only [List.length_append]; omega)
   have a6 := addS (x1 ++ bb ++ bo ++ x4 ++ be ++ x6) x7 (by simp only [List.length_append]; omega)
   have a7 := addS pb (x1 ++ bb ++ bo ++ x4 ++ be ++ x6 ++ x7) (by simp only [List.length_append]; omega)
   obtain ⟨p1, hp1⟩ : ∃ x, x = x1 ++ bb := ⟨_, rfl⟩
   rw [← hp1] at a1 a2 a3 a4 a5 a6 a7
   obtain ⟨p2, hp2⟩ : ∃ x, x = p1 ++ bo := ⟨_, rfl⟩
   rw [← hp2] at a2 a3 a4 a5 a6 a7
   obtain ⟨p3, hp3⟩ : ∃ x, x = p2 ++ x4 := ⟨_, rfl⟩
   rw [← hp3] at a3 a4 a5 a6 a7
   obtain ⟨p4, hp4⟩ : ∃ x, x = p3 ++ be := ⟨_, rfl⟩
   rw [← hp4] at a4 a5 a6 a7
   obtain ⟨p5, hp5⟩ : ∃ x, x = p4 ++ x6 := ⟨_, rfl⟩
   rw [← hp5] at a5 a6 a7
   obtain ⟨p6, hp6⟩ : ∃ x, x = p5 ++ x7 := ⟨_, rfl⟩
   rw [← hp6] at a6 a7
   obtain ⟨p7, hp7⟩ : ∃ x, x = pb ++ p6 := ⟨_, rfl⟩
   rw [← hp7] at a7
   have HP7 : Hid (p7 = encZ zk ++ bl ++ Tp.enc m ++ o.kids.flatMap kidBytes ++ (encZ zn ++ (Tp.enc nb ++ o.bytes) ++ bo ++ encZ zc ++ be ++ encZ zr ++ Tp.enc nm)) := by
    unfold Hid
    rw [hp7, hp6, hp5, hp4, hp3, hp2, hp1, hpb, hx1, hx4, hx6, hx7, hHB.out, HE0.out nm HN.out.2]
   have hl7 : p7.length + (o.maps.flatMap mapBytes).length ≤ 20000000 := by
    rw [hp7, hp6, hp5, hp4, hp3, hp2, hp1]
    simp only [List.length_append]
    omega
   have HL7 := Lib.hid hl7
   clear hp1 hp2 hp3 hp4 hp5 hp6 hp7 hx1 hx4 hx6 hx7 hpb hln hl7 htk
   obtain ⟨T1, hT1⟩ : ∃ S, S = Tp.str x1 := ⟨_, rfl⟩
   obtain ⟨TB, hTB⟩ : ∃ S, S = Tp.str bb := ⟨_, rfl⟩
   obtain ⟨TO, hTO⟩ : ∃ S, S = Tp.str bo := ⟨_, rfl⟩
   obtain ⟨T4, hT4⟩ : ∃ S, S = Tp.str x4 := ⟨_, rfl⟩
   obtain ⟨TE, hTE⟩ : ∃ S, S = Tp.str be := ⟨_, rfl⟩
   obtain ⟨T6, hT6⟩ : ∃ S, S = Tp.str x6 := ⟨_, rfl⟩
   obtain ⟨T7, hT7⟩ : ∃ S, S = Tp.str x7 := ⟨_, rfl⟩
   obtain ⟨TP, hTP⟩ : ∃ S, S = Tp.str pb := ⟨_, rfl⟩
   obtain ⟨U1, hU1⟩ : ∃ S, S = Tp.str p1 := ⟨_, rfl⟩
   obtain ⟨U2, hU2⟩ : ∃ S, S = Tp.str p2 := ⟨_, rfl⟩
   obtain ⟨U3, hU3⟩ : ∃ S, S = Tp.str p3 := ⟨_, rfl⟩
   obtain ⟨U4, hU4⟩ : ∃ S, S = Tp.str p4 := ⟨_, rfl⟩
   obtain ⟨U5, hU5⟩ : ∃ S, S = Tp.str p5 := ⟨_, rfl⟩
   obtain ⟨U6, hU6⟩ : ∃ S, S = Tp.str p6 := ⟨_, rfl⟩
   obtain ⟨U7, hU7⟩ : ∃ S, S = Tp.str p7 := ⟨_, rfl⟩
   obtain ⟨TS, hTS⟩ : ∃ S, S = Tp.str o.bytes := ⟨_, rfl⟩
   rw [← hT1, ← hTB, ← hU1] at a1
   rw [← hU1, ← hTO, ← hU2] at a2
   rw [← hU2, ← hT4, ← hU3] at a3
   rw [← hU3, ← hTE, ← hU4] at a4
   rw [← hU4, ← hT6, ← hU5] at a5
   rw [← hU5, ← hT7, ← hU6] at a6
   rw [← hTP, ← hU6, ← hU7] at a7
   rw [← hT1] at D1
   rw [← hTB, ← hTS] at D2
   rw [← hTO] at D3
   rw [← hT4] at D4
   rw [← hTE] at D5
   rw [← hT6] at D6
   rw [← hT7] at D7
   rw [← hTS] at cv
   rw [← hTP]
   have HU7 := Lib.hid hU7
   have D1 := Lib.hid D1
   have D2 := Lib.hid D2
   have D3 := Lib.hid D3
   have D4 := Lib.hid D4
   have D5 := Lib.hid D5
   have D6 := Lib.hid D6
   have D7 := Lib.hid D7
   have HXR := Lib.hid XR
   have BW := Lib.hid bw
   clear hT1 hTB hTO hT4 hTE hT6 hT7 hTP hU1 hU2 hU3 hU4 hU5 hU6 hU7 hTS XR bw hbr hmk k0 k1 k2 k3 k4 k5 k6 k7 k8 k9
   go_wp2_with fail
   refine wp_region_quiet_below (by kernel_rfl) (by kernel_rfl) ?_
   repeat (go_big_quiet_step (first | with_reducible exact D1.out _ _ | with_reducible exact D2.out _ _ | with_reducible exact D3.out _ _ | with_reducible exact D4.out _ _ | with_reducible exact D5.out _ _ | with_reducible exact D6.out _ _ | with_reducible exact D7.out _ _))
   refine wpQuiet_nil ?_
   rintro _ ⟨⟨dq, osq⟩, rfl⟩
   have hbw := below_regrown wr dq osq
   obtain ⟨w4, hw4⟩ : ∃ W, W = Sort.grow (redrawn wr dq) osq := ⟨_, rfl⟩
   rw [← hw4] at hbw ⊢
   have X4 := HXR.out.on hbw
   have B4 := Lib.hid (next_below BW.out hbw)
   clear hw4 hbw a1 a2 a3 a4 a5 a6 a7 cv g3 g4 g5 g6 g7 g8 g9 D1 D2 D3 D4 D5 D6 D7
   obtain ⟨k0, k1, k2, k3, k4, k5, k6, k7, k8, k9⟩ := box10 X4
   clear X4
   go_wp2_with fail
   clear k0 k1 k2 k3 k4 k5 k6 k7 k8 k9
   go_loopg [3, 75] nm (fun k s i wr => RpS w4 nm p7 mapBytes o.maps k s i wr)
   case atStart => exact ⟨0, by simp, rfl, by rw [HU7.out]; simp, Below.refl _ _⟩
   case round =>
    obtain ⟨n, hnk, hi, hs, hbq⟩ := hrel
    subst hi hs
    have HNM := Lib.hid hnk
    have BQ := Lib.hid (next_below B4.out hbq)
    have BQ4 := Lib.hid hbq
    cases gk with
    | zero =>
     have hnn : n = nm := by omega
     subst hnn
     have hge2 : ¬ (n : Int) < n := by omega
     have htk : o.maps.take n = o.maps := List.take_of_length_le (by rw [← HNK.out.2]; exact Nat.le_refl _)
     rw [htk]
     clear hnk hbq htk
     go_wp2_with fail
     go_ret
     exact ⟨by rw [HP7.out]; simp only [List.append_assoc]; rfl, BQ.out⟩
    | succ i =>
     have hn : n < nm := by omega
     have hnlt : (n : Int) < nm := by omega
     have hNm : nm ≤ 1048576 := HN.out.2
     obtain ⟨x, hx⟩ : ∃ x, o.maps[n]? = some x := ⟨_, List.getElem?_eq_getElem (by rw [← HNK.out.2]; exact hn)⟩
     obtain ⟨b, off, rfl, -, hlt, hcell⟩ := HSM.out (by have := (List.getElem?_eq_some_iff.1 hx).1; omega)
     obtain ⟨q0, ⟨sv, q1, hsv⟩, q2⟩ := hcell n x hx
     have c0 := (BQ.out.cell (p := ⟨b, off + n * 3, none⟩) hlt).trans q0
     have c1 := (BQ.out.cell (p := ⟨b, off + n * 3 + 1, none⟩) hlt).trans q1
     have c2 := (BQ.out.cell (p := ⟨b, off + n * 3 + 2, none⟩) hlt).trans q2
     obtain ⟨As, cs, rfl, -, -, hss⟩ := hsv
     obtain ⟨za, hza⟩ : ∃ z, z = x.1 := ⟨_, rfl⟩
     obtain ⟨zp, hzp⟩ : ∃ z, z = x.2.1 := ⟨_, rfl⟩
     obtain ⟨fl, hfl⟩ : ∃ z, z = x.2.2 := ⟨_, rfl⟩
     rw [← hza] at c0
     rw [← hzp] at c1 hss
     rw [← hfl] at c2
     have hwm := HW.out.maps.2 x (List.mem_of_getElem? hx)
     rw [← hzp] at hwm
     obtain ⟨bf, hbf⟩ : ∃ b, b = encZ (if fl then 1 else 0) := ⟨_, rfl⟩
     have hKB : mapBytes x = encZ za ++ (zBytes zp ++ bf) := by rw [hza, hzp, hbf, hfl]; rfl
     obtain ⟨W0, hW0⟩ : ∃ W, W = wr.alloc (.cells #[.int .i64 za, .slice As zp.length cs, .bool fl] 45) := ⟨_, rfl⟩
     obtain ⟨by0, hby⟩ : ∃ y, y = wr.heap.size := ⟨_, rfl⟩
     have hbn : Below wr.heap.size wr W0 := by rw [hW0]; exact (Below.refl _ _).alloc (Nat.le_refl _) _
     have r0 : W0.cell? ⟨by0, 0, none⟩ = some (.int .i64 za) := by rw [hW0, hby]; simp
     have r1 : W0.cell? ⟨by0, 1, none⟩ = some (.slice As zp.length cs) := by rw [hW0, hby]; simp
     have r2 : W0.cell? ⟨by0, 2, none⟩ = some (.bool fl) := by rw [hW0, hby]; simp
     have g0 := cell_regrown r0
     have g1 := cell_regrown r1
     have g2 := cell_regrown r2
     obtain ⟨pb, hpb⟩ : ∃ p, p = p7 ++ (o.maps.take n).flatMap mapBytes := ⟨_, rfl⟩
     have hnx : p7 ++ (o.maps.take (n + 1)).flatMap mapBytes = pb ++ (encZ za ++ zBytes zp ++ bf) := by
      rw [flat_step hx, hKB, hpb]
      simp only [List.append_assoc]
     have hln := HL7.out
     have hft := flat_take mapBytes o.maps (n + 1)
     have hlx := congrArg List.length hnx
     simp only [List.length_append] at hlx
     have a1 := addS (encZ za) (zBytes zp) (by omega)
     have a2 := addS (encZ za ++ zBytes zp) bf (by rw [List.length_append]; omega)
     have a3 := addS pb (encZ za ++ zBytes zp ++ bf) (by simp only [List.length_append]; omega)
     rw [← hnx] at a3
     have bwn := next_below BQ.out hbn
     have D1 := fun d os => quietB (w := W0) (fun W _ => N45.out za W) d os
     have D2 := fun d os => quietB (w := W0) (v := .string (Tp.str (zBytes zp))) (fun W hW => Pa.refPutL_any (c := cs) (Pa.zs_on hss.zs (next_below bwn hW)) hwm.2.1) d os
     have D3 := fun d os => quietB (w := W0) (fun W _ => refFlag_any fl W) d os
     rw [← hbf] at D3
     rw [← hpb]
     obtain ⟨np, hnp⟩ : ∃ n, n = zp.length := ⟨_, rfl⟩
     rw [← hnp] at D2 c1 g1 hW0
     obtain ⟨SP, hSP⟩ : ∃ S, S = Tp.str pb := ⟨_, rfl⟩
     obtain ⟨SN, hSN⟩ : ∃ S, S = Tp.str (p7 ++ (o.maps.take (n + 1)).flatMap mapBytes) := ⟨_, rfl⟩
     rw [← hSP, ← hSN] at a3
     rw [← hSP]
     have HSN := Lib.hid hSN
     obtain ⟨SA, hSA⟩ : ∃ S, S = Tp.str (encZ za) := ⟨_, rfl⟩
     obtain ⟨SB, hSB⟩ : ∃ S, S = Tp.str (zBytes zp) := ⟨_, rfl⟩
     obtain ⟨SC, hSC⟩ : ∃ S, S = Tp.str bf := ⟨_, rfl⟩
     obtain ⟨SD, hSD⟩ : ∃ S, S = Tp.str (encZ za ++ zBytes zp) := ⟨_, rfl⟩
     obtain ⟨SE, hSE⟩ : ∃ S, S = Tp.str (encZ za ++ zBytes zp ++ bf) := ⟨_, rfl⟩
     rw [← hSA, ← hSB, ← hSD] at a1
     rw [← hSD, ← hSC, ← hSE] at a2
     rw [← hSE] at a3
     rw [← hSA] at D1
     rw [← hSB] at D2
     rw [← hSC] at D3
     have D1 := Lib.hid D1
     have D2 := Lib.hid D2
     have D3 := Lib.hid D3
     have BN := Lib.hid (next_below BQ4.out hbn)
     clear hnk hbq hx q0 q1 q2 hcell hza hzp hfl hKB hbn hpb hnx hln hft hlx hSP hSN hSA hSB hSC hSD hSE r0 r1 r2 hss hwm hbf bwn hnp
     go_wp2_with fail
     rw [← hW0, ← hby]
     clear hW0 hby c0 c1 c2
     refine wp_region_quiet_below (by kernel_rfl) (by kernel_rfl) ?_
     repeat (go_big_quiet_step (first | with_reducible exact D1.out _ _ | with_reducible exact D2.out _ _ | with_reducible exact D3.out _ _))
     refine wpQuiet_nil ?_
     rintro _ ⟨⟨dq, osq⟩, rfl⟩
     have B9 := Lib.hid (next_below BN.out (below_regrown W0 dq osq))
     clear g0 g1 g2 a1 a2 a3
     go_wp2_with fail
     go_roundg i
     case measure => omega
     case rel =>
      obtain ⟨hN1, hN2⟩ := HN.out
      exact ⟨n + 1, by have := HNM.out; omega, by go_num, by rw [HSN.out], B9.out⟩
end Go.Proofs.YtgcbfggoddkhnaaGreatDoor
namespace Go.Proofs.YtgcbfggoddkhnaaGreatDoor
open Go.RowKit
open Go.Lib Go.Sort
set_option maxRecDepth 100000 in
set_option maxHeartbeats 2000000 in
theorem refUses_any {w : World} {F : Nat → Prop} {v : Value} {o : Ob} {n : Int} (h : ObjAt w F v o) (hw : WideO o) (hk : KidsOk n o.kids) : Calls Tryz.prog 17 #[v] w (RetB w (.int .i64 (uses o))) := by
 obtain ⟨vk, ⟨vl, vb, vo, ve, vm, rfl, -, ⟨Ab, cb, rfl, -⟩, ⟨Ao, co, rfl, -⟩, ⟨Ae, ce, rfl, -⟩, ⟨Am, cm, rfl, -⟩⟩, ⟨A, c, rfl, -, -, hs⟩⟩ := h
 have w1 := hw.bytes.1
 have w2 := hw.own.1
 have w3 := hw.entry.1
 have w4 := hw.maps.1
 have h16 := hk.1
 have HK := Lib.hid hk
 have HS := Lib.hid hs
 clear hw hk hs
 obtain ⟨z, hz⟩ : ∃ z, z = base0 o := ⟨_, rfl⟩
 have HZ := Lib.hid hz
 have hz0 : 16 ≤ z ∧ z ≤ 100000000 := by unfold base0 at hz; omega
 obtain ⟨hz1, hz2⟩ := hz0
 obtain ⟨nb, hnb⟩ : ∃ n, n = o.bytes.length := ⟨_, rfl⟩
 obtain ⟨no, hno⟩ : ∃ n, n = o.own.length := ⟨_, rfl⟩
 obtain ⟨ne, hne⟩ : ∃ n, n = o.entry.length := ⟨_, rfl⟩
 obtain ⟨nm, hnm⟩ : ∃ n, n = o.maps.length := ⟨_, rfl⟩
 have HE : Hid (16 + (nb : Int) + 8 * (no : Int) + 16 * (ne : Int) + 24 * (nm : Int) = z) := by unfold Hid; rw [hz, hnb, hno, hne, hnm]; rfl
 rw [← hnb, ← hno, ← hne, ← hnm]
 rw [← hnb] at w1
 rw [← hno] at w2
 rw [← hne] at w3
 rw [← hnm] at w4
 obtain ⟨cs, hcs⟩ : ∃ cs : Array Value, cs = #[.int .i64 o.kind, vl, .slice A o.kids.length c, .int .i64 o.next, .slice Ab nb cb, .slice Ao no co, .int .i64 o.cats, .slice Ae ne ce, .int .i64 o.ring, .slice Am nm cm] := ⟨_, rfl⟩
 have HB0 : Hid (Below w.heap.size w (w.alloc (.cells cs 29))) := (Below.refl _ _).alloc (Nat.le_refl _) _
 have HC := Lib.hid hcs
 clear hcs hz hnb hno hne hnm
 go_enter Tryz.func17, Tryz.ntmps17
 go_wp2_with fail
 go_loopg [3, 28] o.kids.length (fun k t i wr => UsRel w o k t i wr)
 case atStart => exact ⟨0, by simp, rfl, by rw [← HZ.out, ← HE.out]; simp [quotas], by rw [← HC.out]; exact HB0.out⟩
 case round =>
  obtain ⟨m, hmk, hi, ht, hb⟩ := hrel
  subst hi ht
  have HB := Lib.hid hb
  have hq := quotas_take HK.out m
  have HZ2 := HZ.out
  rw [← HZ2]
  cases gk with
  | zero =>
   have hge : o.kids.length ≤ m := by omega
   have HD : Hid (z + quotas (o.kids.take m) = uses o) := by unfold Hid; rw [uses_base, List.take_of_length_le hge, HZ.out]
   clear hb hq HZ2
   go_wp2_with fail
   go_ret
   exact ⟨by rw [HD.out] <;> rfl, HB.out⟩
  | succ j =>
   have hm : m < o.kids.length := by omega
   obtain ⟨x, hx⟩ : ∃ x, o.kids[m]? = some x := ⟨_, List.getElem?_eq_getElem hm⟩
   obtain ⟨e1, e2, e3⟩ := kidCells_at hx
   obtain ⟨b, of, rfl, -, hltb, hc⟩ := HS.out (by rw [kidCells_length]; omega)
   have HX := Lib.hid (quotas_snoc hx)
   have hq2 := quotas_take HK.out (m + 1)
   rw [quotas_snoc hx] at hq2
   obtain ⟨n, kd, q⟩ := x
   have d1 := (hb.cell (p := ⟨b, of + m * 3, none⟩) hltb).trans (hc _ _ e1)
   have d2 := (hb.cell (p := ⟨b, of + (m * 3 + 1), none⟩) hltb).trans (hc _ _ e2)
   have d3 := (hb.cell (p := ⟨b, of + (m * 3 + 2), none⟩) hltb).trans (hc _ _ e3)
   rw [← Nat.add_assoc] at d2 d3
   obtain ⟨s, hs⟩ : ∃ s, s = quotas (o.kids.take m) := ⟨_, rfl⟩
   have HSS := Lib.hid hs
   rw [← hs] at hq hq2
   rw [← hs]
   simp only at hq2
   obtain ⟨q1, q2⟩ := hq
   obtain ⟨q3, q4⟩ := hq2
   have HMK := Lib.hid hmk
   have hszw := hb.size
   clear hb hs hx e1 e2 e3 hc hmk HZ2
   go_wp2_with fail
   go_roundg j
   case measure => omega
   case rel =>
    refine ⟨m + 1, by have := HMK.out; omega, by go_num, ?_, HB.out.trans ((Below.refl _ _).alloc (by have := HB.out.size; omega) _)⟩
    rw [HX.out, ← HSS.out, ← HZ.out]
    go_num
theorem bytes_ne {S T : ByteArray} (h : ¬ S = T) : (S.toList == T.toList) = false := by
 have h1 := str_differs (a := S.data.toList) (b := T.data.toList) fun e => h (by rw [str_of S, str_of T, e])
 rwa [← str_of, ← str_of] at h1
def SameO (a b : Ob) : Prop := obBytes a = obBytes b ∧ a.kind = b.kind
instance (a b : Ob) : Decidable (SameO a b) := inferInstanceAs (Decidable (_ ∧ _))
theorem ObjAt.kindv {w : World} {F : Nat → Prop} {o : Ob} {z : Int} {v1 v2 v3 v4 v5 v6 v7 v8 v9 : Value} (h : ObjAt w F (.agg #[.int .i64 z, v1, v2, v3, v4, v5, v6, v7, v8, v9]) o) : z = o.kind := by
 obtain ⟨vk, ⟨vl, vb, vo, ve, vm, e, _⟩, _⟩ := h
 injection e with e
 simp only [Array.mk.injEq, List.cons.injEq] at e
 obtain ⟨e, _⟩ := e
 injection e
theorem str_injL {a b : List Nat} (ha : Tp.Sml a) (hb : Tp.Sml b) (h : Tp.str a = Tp.str b) : a = b := by
 rw [← Tp.bys_str ha, ← Tp.bys_str hb, h]
set_option maxRecDepth 100000 in
set_option maxHeartbeats 2000000 in
theorem refSame9_any {w : World} {F G : Nat → Prop} {u v : Value} {a b : Ob} (hu : ObjAt w F u a) (hv : ObjAt w G v b) (ha : WideO a) (hb : WideO b) (h1 : (obBytes a).length ≤ 20000000) (h2 : (obBytes b).length ≤ 20000000) :
   Calls Tryz.prog 18 #[u, v] w (RetB w (.bool (decide (SameO a b)))) := by
 have C1 : Hid (∀ W, Below w.heap.size w W → Calls Tryz.prog 11 #[u] W (RetB W (.string (Tp.str (obBytes a))))) := fun W hW => refPut9_any (hu.read hW) ha h1
 have C2 : Hid (∀ W, Below w.heap.size w W → Calls Tryz.prog 11 #[v] W (RetB W (.string (Tp.str (obBytes b))))) := fun W hW => refPut9_any (hv.read hW) hb h2
 have hsa := sml_ob ha.bytes.2
 have hsb := sml_ob hb.bytes.2
 obtain ⟨zk1, AL1, nL1, cL1, Ak1, nk1, ck1, nx1, AB1, nB1, cB1, AO1, nO1, cO1, ca1, AN1, nN1, cN1, ri1, AM1, nM1, cM1, rfl⟩ := hu.shape
 obtain ⟨zk2, AL2, nL2, cL2, Ak2, nk2, ck2, nx2, AB2, nB2, cB2, AO2, nO2, cO2, ca2, AN2, nN2, cN2, ri2, AM2, nM2, cM2, rfl⟩ := hv.shape
 have e1 := hu.kindv
 have e2 := hv.kindv
 have HEQ : Hid ((Tp.str (obBytes a) = Tp.str (obBytes b)) ↔ obBytes a = obBytes b) := ⟨str_injL hsa hsb, fun h => by rw [h]⟩
 have hdec : decide (SameO a b) = (decide (Tp.str (obBytes a) = Tp.str (obBytes b)) && decide (zk1 = zk2)) := by
   rw [e1, e2, Bool.eq_iff_iff]
   simp only [decide_eq_true_eq, Bool.and_eq_true, HEQ.out]
   exact Iff.rfl
 rw [hdec]
 obtain ⟨S1, hS1⟩ : ∃ S, S = Tp.str (obBytes a) := ⟨_, rfl⟩
 obtain ⟨S2, hS2⟩ : ∃ S, S = Tp.str (obBytes b) := ⟨_, rfl⟩
 rw [← hS1] at C1 ⊢
 rw [← hS2] at C2 ⊢
 clear hu hv ha hb h1 h2 hsa hsb e1 e2 HEQ hdec hS1 hS2
 obtain ⟨w0, hw0⟩ : ∃ W, W = (w.alloc (.cells #[.int .i64 zk1, .slice AL1 nL1 cL1, .slice Ak1 nk1 ck1, .int .i64 nx1, .slice AB1 nB1 cB1, .slice AO1 nO1 cO1, .int .i64 ca1, .slice AN1 nN1 cN1, .int .i64 ri1, .slice AM1 nM1 cM1] 29)).alloc (.cells #[.int .i64 zk2, .slice AL2 nL2 cL2, .slice Ak2 nk2 ck2, .int .i64 nx2, .slice AB2 nB2 cB2, .slice AO2 nO2 cO2, .int .i64 ca2, .slice AN2 nN2 cN2, .int .i64 ri2, .slice AM2 nM2 cM2] 29) := ⟨_, rfl⟩
 obtain ⟨b1, hb1⟩ : ∃ b, b = w.heap.size := ⟨_, rfl⟩
 obtain ⟨b2, hb2⟩ : ∃ b, b = w.heap.size + 1 := ⟨_, rfl⟩
 have X1 : BoxAt w0 b1 #[.int .i64 zk1, .slice AL1 nL1 cL1, .slice Ak1 nk1 ck1, .int .i64 nx1, .slice AB1 nB1 cB1, .slice AO1 nO1 cO1, .int .i64 ca1, .slice AN1 nN1 cN1, .int .i64 ri1, .slice AM1 nM1 cM1] 29 := by rw [hw0, hb1]; exact (BoxAt.new _ _ _).alloc _
 have X2 : BoxAt w0 b2 #[.int .i64 zk2, .slice AL2 nL2 cL2, .slice Ak2 nk2 ck2, .int .i64 nx2, .slice AB2 nB2 cB2, .slice AO2 nO2 cO2, .int .i64 ca2, .slice AN2 nN2 cN2, .int .i64 ri2, .slice AM2 nM2 cM2] 29 := by
   have h9 : (w.alloc (.cells #[.int .i64 zk1, .slice AL1 nL1 cL1, .slice Ak1 nk1 ck1, .int .i64 nx1, .slice AB1 nB1 cB1, .slice AO1 nO1 cO1, .int .i64 ca1, .slice AN1 nN1 cN1, .int .i64 ri1, .slice AM1 nM1 cM1] 29)).heap.size = w.heap.size + 1 := by simp
   rw [hw0, hb2, ← h9]; exact BoxAt.new _ _ _
 have B0 : Below w.heap.size w w0 := by rw [hw0]; exact ((Below.refl _ _).alloc (Nat.le_refl _) _).alloc (by simp) _
 obtain ⟨k0, k1, k2, k3, k4, k5, k6, k7, k8, k9⟩ := box10 X1
 obtain ⟨l0, l1, l2, l3, l4, l5, l6, l7, l8, l9⟩ := box10 X2
 have gk0 := cell_regrown k0
 have gk1 := cell_regrown k1
 have gk2 := cell_regrown k2
 have gk3 := cell_regrown k3
 have gk4 := cell_regrown k4
 have gk5 := cell_regrown k5
 have gk6 := cell_regrown k6
 have gk7 := cell_regrown k7
 have gk8 := cell_regrown k8
 have gk9 := cell_regrown k9
 have gl0 := cell_regrown l0
 have gl1 := cell_regrown l1
 have gl2 := cell_regrown l2
 have gl3 := cell_regrown l3
 have gl4 := cell_regrown l4
 have gl5 := cell_regrown l5
 have gl6 := cell_regrown l6
 have gl7 := cell_regrown l7
 have gl8 := cell_regrown l8
 have gl9 := cell_regrown l9
 have D1 := Lib.hid (quietB (w := w0) fun W hW => C1.out W (next_below B0 hW))
 have D2 := Lib.hid (quietB (w := w0) fun W hW => C2.out W (next_below B0 hW))
 have HB0 := Lib.hid B0
 clear X1 X2 B0 C1 C2
 by_cases h1 : S1 = S2
 · subst h1
   rw [decide_eq_true rfl, Bool.true_and]
   go_enter Tryz.func18, Tryz.ntmps18
   go_wp2_with fail
   rw [← hw0, ← hb2, ← hb1]
   clear hw0 hb1 hb2
   refine wp_region_quiet_below (by kernel_rfl) (by kernel_rfl) ?_
   repeat (go_big_quiet_step (first | with_reducible exact D1.out _ _ | with_reducible exact D2.out _ _))
   refine wpQuiet_nil ?_
   rintro _ ⟨⟨dq, osq⟩, rfl⟩
   go_wp2_with fail
   go_ret
   exact ⟨by first | rfl | simp | (congr 1), next_below HB0.out (below_regrown w0 dq osq)⟩
 · rw [decide_eq_false h1, Bool.false_and]
   have h1b := bytes_ne h1
   go_enter Tryz.func18, Tryz.ntmps18
   go_wp2_with fail
   rw [← hw0, ← hb2, ← hb1]
   clear hw0 hb1 hb2
   refine wp_region_quiet_below (by kernel_rfl) (by kernel_rfl) ?_
   repeat (go_big_quiet_step (first | with_reducible exact D1.out _ _ | with_reducible exact D2.out _ _))
   refine wpQuiet_nil ?_
   rintro _ ⟨⟨dq, osq⟩, rfl⟩
   go_wp2_with fail
   go_ret
   exact ⟨by first | rfl | simp | (congr 1), next_below HB0.out (below_regrown w0 dq osq)⟩
end Go.Proofs.YtgcbfggoddkhnaaGreatDoor
namespace Go.Proofs.YtgcbfggoddkhnaaGreatDoor
open Go.RowKit
theorem isCat_any {w : World} {s : List UInt8} (hn : s.length ≤ 1048576) : Calls Tryz.prog 107 #[.string (str s)] w (RetB w (.bool (catOf s).isSome)) := by
 have H := Lib.hid (get_any (w := w) hn)
 go_enter Tryz.func107, Tryz.ntmps107
 go_wp2_with fail
 refine H.out.mono ?_
 rintro e w1 ⟨hb1, (⟨p, n, v, hc1, rfl, hrow1⟩ | ⟨hc1, rfl⟩)⟩
 · obtain ⟨A1, cc1, rfl⟩ := hrow1.slice
   have B1 := Lib.hid hb1
   have HC := Lib.hid hc1
   clear hb1 hc1 hrow1 H
   go_wp2_with fail
   go_ret
   exact ⟨by rw [HC.out]; rfl, B1.out.alloc B1.out.size _⟩
 · have B1 := Lib.hid hb1
   have HC := Lib.hid hc1
   clear hb1 hc1 H
   go_wp2_with fail
   go_ret
   exact ⟨by rw [HC.out]; rfl, B1.out.alloc B1.out.size _⟩
set_option maxRecDepth 100000 in
set_option maxHeartbeats 2000000 in
theorem refRight_any {w : World} {A : Option Addr} {c : Nat} {l : List Ent} (hl : Ents w w.heap.size A l) (hx : ∀ e ∈ l, e.1.length ≤ 1048576) (hn : l.length ≤ maxLen) :
   Calls Tryz.prog 65 #[.slice A l.length c] w (RetB w (.bool (decide (RightL l)))) := by
 have HL := Lib.hid hl
 have HX := Lib.hid hx
 clear hl hx
 unfold maxLen at hn
 by_cases h8 : 8 < l.length
 · have HD : Hid (decide (RightL l) = false) := decide_eq_false fun h => by have := h.1; omega
   go_enter Tryz.func65, Tryz.ntmps65
   go_wp2_with fail
   go_ret
   exact ⟨by rw [HD.out]; rfl, Below.refl _ _⟩
 have h8' : l.length ≤ 8 := by omega
 clear h8
 go_enter Tryz.func65, Tryz.ntmps65
 go_wp2_with fail
 go_loopg [9] l.length (fun k i wr => RightRel w l k i wr)
 case atStart => exact ⟨0, by simp, rfl, good_zero l, Below.refl _ _⟩
 case round =>
   obtain ⟨m, hmk, hi, hgd, hb⟩ := hrel
   subst hi
   have HB := Lib.hid hb
   have HG := Lib.hid hgd
   have hsz := hb.size
   cases gk with
   | zero =>
    have hge : l.length ≤ m := by omega
    have HD : Hid (decide (RightL l) = true) := decide_eq_true ⟨h8', by have := HG.out; rwa [List.take_of_length_le hge] at this⟩
    clear hgd hb
    go_wp2_with fail
    go_ret
    exact ⟨by rw [HD.out]; rfl, HB.out⟩
   | succ j =>
    have hm : m < l.length := by omega
    obtain ⟨⟨t, n⟩, hx⟩ : ∃ x, l[m]? = some x := ⟨_, List.getElem?_eq_getElem hm⟩
    obtain ⟨b, o, rfl, hlt, hcells⟩ := (HL.out.below hb) (by omega)
    obtain ⟨c1, c2⟩ := hcells m t n hx
    have hlt2 : b < wr.heap.size := by omega
    have HM := Lib.hid hmk
    have HXM := Lib.hid hx
    have htl : t.length ≤ 1048576 := HX.out _ (List.mem_of_getElem? hx)
    have H34 := Lib.hid (isCat_any (w := wr) htl)
    have C1 := Lib.hid c1
    have C2 := Lib.hid c2
    have hprev : Hid (∀ k, m = k + 1 → ∃ p q, l[k]? = some (p, q) ∧ wr.cell? ⟨b, o + k * 2, none⟩ = some (.string (str p)) ∧ p.length ≤ 1048576) := fun k hk => by
     obtain ⟨⟨p, q⟩, hp⟩ : ∃ x, l[k]? = some x := ⟨_, List.getElem?_eq_getElem (by omega)⟩
     exact ⟨p, q, hp, (hcells k p q hp).1, HX.out _ (List.mem_of_getElem? hp)⟩
    clear hcells hx hmk hgd
    go_wp2_with fail
    refine H34.out.mono ?_
    rintro e w1 ⟨rfl, hb1⟩
    have B1 := Lib.hid hb1
    have c3 : w1.cell? ⟨b, o + m * 2, none⟩ = some (.string (str t)) := (hb1.cell (p := ⟨b, o + m * 2, none⟩) hlt2).trans C1.out
    have c4 : w1.cell? ⟨b, o + m * 2 + 1, none⟩ = some (.int .i64 n) := (hb1.cell (p := ⟨b, o + m * 2 + 1, none⟩) hlt2).trans C2.out
    clear hb1 H34 c1 c2 hb
    cases hcat : (catOf t).isSome with
    | false =>
     have HD : Hid (decide (RightL l) = false) := decide_eq_false (bad_entry HXM.out fun h => by
       have h1 := (entErr_zero.1 h.1).1
       simp only at h1
       rw [hcat] at h1
       cases h1)
     clear hcat
     go_wp2_with fail
     go_ret
     exact ⟨by rw [HD.out]; rfl, HB.out.trans (B1.out.mono hsz)⟩
    | true =>
     have HCAT := Lib.hid hcat
     clear hcat
     by_cases hn0 : n = 0
     · subst hn0
       have HZ : Hid (entErr (t, 0) = 0) := entErr_zero.2 ⟨HCAT.out, by simp⟩
       have HN1 : Hid ((t, (0 : Int)).2 ≠ 1) := by unfold Hid; simp
       by_cases hm0 : m = 0
       · subst hm0
         have HG2 := Lib.hid (good_first HXM.out HZ.out HN1.out)
         simp only [Nat.zero_mul, Nat.add_zero] at c3 c4
         clear hprev
         go_wp2_with fail
         go_quiet (fail)
         go_wp2_with fail
         go_roundg j
         case measure => omega
         case rel => exact ⟨1, by have := HM.out; omega, by go_num, HG2.out, below_drewN (HB.out.trans (B1.out.mono hsz)) _⟩
       · obtain ⟨k, hk⟩ : ∃ k, m = k + 1 := ⟨m - 1, by omega⟩
         obtain ⟨p, q, hp, cp, hpl⟩ := hprev.out k hk
         have cp1 : w1.cell? ⟨b, o + k * 2, none⟩ = some (.string (str p)) := (B1.out.cell (p := ⟨b, o + k * 2, none⟩) (show b < _ by omega)).trans cp
         have H40 : Hid (∀ W, Below w1.heap.size w1 W → Calls Tryz.prog 108 #[.string (str p), .string (str t)] W fun e w' => e = .returned (.int .i64 (cmpC p t)) ∧ Below w1.heap.size w1 w') := fun W h =>
           (refCompare_any hpl htl).mono fun e w' h2 => ⟨h2.1, h.trans (h2.2.mono h.size)⟩
         have hbw1 : b < w1.heap.size := by have := B1.out.size; omega
         have HPM := Lib.hid hp
         have HK := Lib.hid hk
         obtain ⟨y, hy⟩ : ∃ y, y = cmpC p t := ⟨_, rfl⟩
         rw [← hy] at H40
         have HY := Lib.hid hy
         have hk1 : IntKind.i64.wrap ((m : Int) - 1) = (k : Int) := by rw [IntKind.wrap_i64]; omega
         have hk2 : ¬ ((k : Int) < 0) := by omega
         have hk3 : (k : Int) < (l.length : Int) := by omega
         have hk4 : k < l.length := by omega
         have hm1 : (m : Int) > 0 := by omega
         have hm2 : 0 < m := by omega
         clear hprev hy hp cp hk hm0
         go_wp2_with fail
         go_region_held3 (fun W => W.cell? ⟨b, o + k * 2, none⟩ = some (.string (str p)) ∧ W.cell? ⟨b, o + m * 2, none⟩ = some (.string (str t)))
           (first
             | go_keep
             | exact ⟨(hbA.cell (p := ⟨b, o + k * 2, none⟩) hbw1).trans cp1, (hbA.cell (p := ⟨b, o + m * 2, none⟩) hbw1).trans c3⟩)
           (first
             | (go_at_call 108; refine (H40.out _ (Below.refl _ _).drew).mono ?_; rintro e W1 ⟨rfl, hbA⟩))
         have B2 := Lib.hid (HB.out.trans ((B1.out.trans (hbA.mono (by have := B1.out.size; omega))).mono hsz))
         clear hbA cp1 c3 c4
         by_cases hy1 : y = -1
         · have HG2 : Hid (Good (l.take (m + 1))) := by
             have hg := HG.out
             have hx := HXM.out
             rw [HK.out] at hg hx ⊢
             exact good_next hg HPM.out hx HZ.out HN1.out (HY.out.symm.trans hy1)
           subst hy1
           clear hk1 hk2 hk3 hk4
           go_wp2_with fail
           go_roundg j
           case measure => omega
           case rel => exact ⟨m + 1, by have := HM.out; omega, by go_num, HG2.out, B2.out⟩
         · have HD : Hid (decide (RightL l) = false) := decide_eq_false (by
             have hx := HXM.out
             rw [HK.out] at hx
             exact bad_next HPM.out hx fun h => hy1 (HY.out.trans h))
           have hyf : ((y : Int) == (-1 : Int)) = false := by simpa using hy1
           clear hk1 hk2 hk3 hk4 hy1
           go_wp2_with fail
           go_ret
           exact ⟨by rw [HD.out]; rfl, B2.out⟩
     · have hb0 : ((n : Int) == (0 : Int)) = false := by simpa using hn0
       by_cases hn2 : n = 2
       · subst hn2
         have HZ : Hid (entErr (t, 2) = 0) := entErr_zero.2 ⟨HCAT.out, by simp⟩
         have HN1 : Hid ((t, (2 : Int)).2 ≠ 1) := by unfold Hid; simp
         by_cases hm0 : m = 0
         · subst hm0
           have HG2 := Lib.hid (good_first HXM.out HZ.out HN1.out)
           simp only [Nat.zero_mul, Nat.add_zero] at c3 c4
           clear hprev
           go_wp2_with fail
           go_quiet (fail)
           go_wp2_with fail
           go_roundg j
           case measure => omega
           case rel => exact ⟨1, by have := HM.out; omega, by go_num, HG2.out, below_drewN (HB.out.trans (B1.out.mono hsz)) _⟩
         · obtain ⟨k, hk⟩ : ∃ k, m = k + 1 := ⟨m - 1, by omega⟩
           obtain ⟨p, q, hp, cp, hpl⟩ := hprev.out k hk
           have cp1 : w1.cell? ⟨b, o + k * 2, none⟩ = some (.string (str p)) := (B1.out.cell (p := ⟨b, o + k * 2, none⟩) (show b < _ by omega)).trans cp
           have H40 : Hid (∀ W, Below w1.heap.size w1 W → Calls Tryz.prog 108 #[.string (str p), .string (str t)] W fun e w' => e = .returned (.int .i64 (cmpC p t)) ∧ Below w1.heap.size w1 w') := fun W h =>
             (refCompare_any hpl htl).mono fun e w' h2 => ⟨h2.1, h.trans (h2.2.mono h.size)⟩
           have hbw1 : b < w1.heap.size := by have := B1.out.size; omega
           have HPM := Lib.hid hp
           have HK := Lib.hid hk
           obtain ⟨y, hy⟩ : ∃ y, y = cmpC p t := ⟨_, rfl⟩
           rw [← hy] at H40
           have HY := Lib.hid hy
           have hk1 : IntKind.i64.wrap ((m : Int) - 1) = (k : Int) := by rw [IntKind.wrap_i64]; omega
           have hk2 : ¬ ((k : Int) < 0) := by omega
           have hk3 : (k : Int) < (l.length : Int) := by omega
           have hk4 : k < l.length := by omega
           have hm1 : (m : Int) > 0 := by omega
           have hm2 : 0 < m := by omega
           clear hprev hy hp cp hk hm0
           go_wp2_with fail
           go_region_held3 (fun W => W.cell? ⟨b, o + k * 2, none⟩ = some (.string (str p)) ∧ W.cell? ⟨b, o + m * 2, none⟩ = some (.string (str t)))
             (first
               | go_keep
               | exact ⟨(hbA.cell (p := ⟨b, o + k * 2, none⟩) hbw1).trans cp1, (hbA.cell (p := ⟨b, o + m * 2, none⟩) hbw1).trans c3⟩)
             (first
               | (go_at_call 108; refine (H40.out _ (Below.refl _ _).drew).mono ?_; rintro e W1 ⟨rfl, hbA⟩))
           have B2 := Lib.hid (HB.out.trans ((B1.out.trans (hbA.mono (by have := B1.out.size; omega))).mono hsz))
           clear hbA cp1 c3 c4
           by_cases hy1 : y = -1
           · have HG2 : Hid (Good (l.take (m + 1))) := by
               have hg := HG.out
               have hx := HXM.out
               rw [HK.out] at hg hx ⊢
               exact good_next hg HPM.out hx HZ.out HN1.out (HY.out.symm.trans hy1)
             subst hy1
             clear hk1 hk2 hk3 hk4
             go_wp2_with fail
             go_roundg j
             case measure => omega
             case rel => exact ⟨m + 1, by have := HM.out; omega, by go_num, HG2.out, B2.out⟩
           · have HD : Hid (decide (RightL l) = false) := decide_eq_false (by
               have hx := HXM.out
               rw [HK.out] at hx
               exact bad_next HPM.out hx fun h => hy1 (HY.out.trans h))
             have hyf : ((y : Int) == (-1 : Int)) = false := by simpa using hy1
             clear hk1 hk2 hk3 hk4 hy1
             go_wp2_with fail
             go_ret
             exact ⟨by rw [HD.out]; rfl, B2.out⟩
       · have hb2 : ((n : Int) == (2 : Int)) = false := by simpa using hn2
         by_cases hn3 : n = 3
         · subst hn3
           have HZ : Hid (entErr (t, 3) = 0) := entErr_zero.2 ⟨HCAT.out, by simp⟩
           have HN1 : Hid ((t, (3 : Int)).2 ≠ 1) := by unfold Hid; simp
           by_cases hm0 : m = 0
           · subst hm0
             have HG2 := Lib.hid (good_first HXM.out HZ.out HN1.out)
             simp only [Nat.zero_mul, Nat.add_zero] at c3 c4
             clear hprev
             go_wp2_with fail
             go_quiet (fail)
             go_wp2_with fail
             go_roundg j
             case measure => omega
             case rel => exact ⟨1, by have := HM.out; omega, by go_num, HG2.out, below_drewN (HB.out.trans (B1.out.mono hsz)) _⟩
           · obtain ⟨k, hk⟩ : ∃ k, m = k + 1 := ⟨m - 1, by omega⟩
             obtain ⟨p, q, hp, cp, hpl⟩ := hprev.out k hk
             have cp1 : w1.cell? ⟨b, o + k * 2, none⟩ = some (.string (str p)) := (B1.out.cell (p := ⟨b, o + k * 2, none⟩) (show b < _ by omega)).trans cp
             have H40 : Hid (∀ W, Below w1.heap.size w1 W → Calls Tryz.prog 108 #[.string (str p), .string (str t)] W fun e w' => e = .returned (.int .i64 (cmpC p t)) ∧ Below w1.heap.size w1 w') := fun W h =>
               (refCompare_any hpl htl).mono fun e w' h2 => ⟨h2.1, h.trans (h2.2.mono h.size)⟩
             have hbw1 : b < w1.heap.size := by have := B1.out.size; omega
             have HPM := Lib.hid hp
             have HK := Lib.hid hk
             obtain ⟨y, hy⟩ : ∃ y, y = cmpC p t := ⟨_, rfl⟩
             rw [← hy] at H40
             have HY := Lib.hid hy
             have hk1 : IntKind.i64.wrap ((m : Int) - 1) = (k : Int) := by rw [IntKind.wrap_i64]; omega
             have hk2 : ¬ ((k : Int) < 0) := by omega
             have hk3 : (k : Int) < (l.length : Int) := by omega
             have hk4 : k < l.length := by omega
             have hm1 : (m : Int) > 0 := by omega
             have hm2 : 0 < m := by omega
             clear hprev hy hp cp hk hm0
             go_wp2_with fail
             go_region_held3 (fun W => W.cell? ⟨b, o + k * 2, none⟩ = some (.string (str p)) ∧ W.cell? ⟨b, o + m * 2, none⟩ = some (.string (str t)))
               (first
                | go_keep
                | exact ⟨(hbA.cell (p := ⟨b, o + k * 2, none⟩) hbw1).trans cp1, (hbA.cell (p := ⟨b, o + m * 2, none⟩) hbw1).trans c3⟩)
               (first
                | (go_at_call 108; refine (H40.out _ (Below.refl _ _).drew).mono ?_; rintro e W1 ⟨rfl, hbA⟩))
             have B2 := Lib.hid (HB.out.trans ((B1.out.trans (hbA.mono (by have := B1.out.size; omega))).mono hsz))
             clear hbA cp1 c3 c4
             by_cases hy1 : y = -1
             · have HG2 : Hid (Good (l.take (m + 1))) := by
                have hg := HG.out
                have hx := HXM.out
                rw [HK.out] at hg hx ⊢
                exact good_next hg HPM.out hx HZ.out HN1.out (HY.out.symm.trans hy1)
               subst hy1
               clear hk1 hk2 hk3 hk4
               go_wp2_with fail
               go_roundg j
               case measure => omega
               case rel => exact ⟨m + 1, by have := HM.out; omega, by go_num, HG2.out, B2.out⟩
             · have HD : Hid (decide (RightL l) = false) := decide_eq_false (by
                have hx := HXM.out
                rw [HK.out] at hx
                exact bad_next HPM.out hx fun h => hy1 (HY.out.trans h))
               have hyf : ((y : Int) == (-1 : Int)) = false := by simpa using hy1
               clear hk1 hk2 hk3 hk4 hy1
               go_wp2_with fail
               go_ret
               exact ⟨by rw [HD.out]; rfl, B2.out⟩
         · have hb3 : ((n : Int) == (3 : Int)) = false := by simpa using hn3
           have hx0 : ((n : Int) != (0 : Int)) = true := by simpa using hn0
           have hx2 : ((n : Int) != (2 : Int)) = true := by simpa using hn2
           have hx3 : ((n : Int) != (3 : Int)) = true := by simpa using hn3
           have HD : Hid (decide (RightL l) = false) := decide_eq_false (bad_entry HXM.out fun h => by
             have h1 := (entErr_zero.1 h.1).2
             have h2 := h.2
             simp only at h1 h2
             omega)
           go_wp2_with fail
           go_ret
           exact ⟨by rw [HD.out]; rfl, HB.out.trans (B1.out.mono hsz)⟩
end Go.Proofs.YtgcbfggoddkhnaaGreatDoor
namespace Go.Proofs.YtgcbfggoddkhnaaGreatDoor
open Go.RowKit
def GoodO (l : List (List UInt8)) : Prop := Rises cmpC l ∧ ∀ x ∈ l, (catOf x).isSome = true
theorem goodO_first {l : List (List UInt8)} {e : List UInt8} (h : l[0]? = some e) (h1 : (catOf e).isSome = true) : GoodO (l.take 1) := by
 cases l with
 | nil => simp at h
 | cons x r =>
  simp at h
  subst h
  exact ⟨by simp [Rises], by simpa using h1⟩
theorem goodO_next {l : List (List UInt8)} {m : Nat} {p e : List UInt8} (h : GoodO (l.take (m + 1))) (hp : l[m]? = some p) (he : l[m + 1]? = some e) (h1 : (catOf e).isSome = true) (hc : cmpC p e = -1) : GoodO (l.take (m + 1 + 1)) := by
 refine ⟨?_, take_all he h.2 h1⟩
 have hr := h.1
 rw [List.take_add_one, hp] at hr
 rw [List.take_add_one, he, List.take_add_one, hp]
 simp only [Option.toList_some] at hr ⊢
 have h3 := List.pairwise_append.1 hr
 refine List.pairwise_append.2 ⟨hr, List.pairwise_singleton _ _, fun x hx y hy => ?_⟩
 simp at hy
 subst hy
 rcases List.mem_append.1 hx with h4 | h4
 · exact tot_cmpC.lt_trans (h3.2.2 x h4 _ (by simp)) hc
 · simp at h4
   subst h4
   exact hc
theorem badO_next {l : List (List UInt8)} {m : Nat} {p e : List UInt8} (hp : l[m]? = some p) (he : l[m + 1]? = some e) (hc : ¬ cmpC p e = -1) : ¬ OwnL l := fun hr => by
 have h1 := List.pairwise_iff_getElem.1 hr.2.1 m (m + 1) (List.getElem?_eq_some_iff.1 hp).1 (List.getElem?_eq_some_iff.1 he).1 (by omega)
 rw [(List.getElem?_eq_some_iff.1 hp).2, (List.getElem?_eq_some_iff.1 he).2] at h1
 exact hc h1
def RightORel (w : World) (l : List (List UInt8)) (k : Nat) (i : Value) (wr : World) : Prop :=
 ∃ m, m + k = l.length ∧ i = .int .i64 (m : Int) ∧ GoodO (l.take m) ∧ Below w.heap.size w wr
set_option maxRecDepth 100000 in
set_option maxHeartbeats 1000000 in
theorem refRightO_any {w : World} {A : Option Addr} {c : Nat} {l : List (List UInt8)} (hl : Strs w w.heap.size A l) (hx : ∀ x ∈ l, x.length ≤ 1048576) (hn : l.length ≤ 1048576) :
  Calls Tryz.prog 66 #[.slice A l.length c] w (RetB w (.bool (decide (OwnL l)))) := by
 have HL := Lib.hid hl
 have HX := Lib.hid hx
 clear hl hx
 go_enter Tryz.func66, Tryz.ntmps66
 go_wp2_with fail
 go_loopg [9] l.length (fun k i wr => RightORel w l k i wr)
 case atStart => exact ⟨0, by simp, rfl, ⟨by simp [Rises], by simp⟩, Below.refl _ _⟩
 case round =>
  obtain ⟨m, hmk, hi, hgd, hb⟩ := hrel
  subst hi
  have HB := Lib.hid hb
  have HG := Lib.hid hgd
  have hsz := hb.size
  cases gk with
  | zero =>
   have hge : l.length ≤ m := by omega
   have HD : Hid (decide (OwnL l) = decide ((l.length : Int) ≤ 8)) := decide_eq_decide.2 ⟨fun h => by have := h.1; omega, fun h => ⟨by omega, by have := HG.out; rwa [List.take_of_length_le hge] at this⟩⟩
   clear hgd hb
   go_wp2_with fail
   go_ret
   exact ⟨by rw [HD.out] <;> rfl, HB.out⟩
  | succ j =>
   have hm : m < l.length := by omega
   obtain ⟨t, hx⟩ : ∃ x, l[m]? = some x := ⟨_, List.getElem?_eq_getElem hm⟩
   obtain ⟨b, o, rfl, hlt, hcells⟩ := (HL.out.below hb) (by omega)
   have c1 := hcells m t hx
   have hlt2 : b < wr.heap.size := by omega
   have HM := Lib.hid hmk
   have HXM := Lib.hid hx
   have htl : t.length ≤ 1048576 := HX.out _ (List.mem_of_getElem? hx)
   have H34 := Lib.hid (get_any (w := wr) htl)
   have hprev : Hid (∀ k, m = k + 1 → ∃ p, l[k]? = some p ∧ wr.cell? ⟨b, o + k, none⟩ = some (.string (str p)) ∧ p.length ≤ 1048576) := fun k hk => by
     obtain ⟨p, hp⟩ : ∃ x, l[k]? = some x := ⟨_, List.getElem?_eq_getElem (by omega)⟩
     exact ⟨p, hp, hcells k p hp, HX.out _ (List.mem_of_getElem? hp)⟩
   clear hcells hx hmk hgd
   go_wp2_with fail
   refine H34.out.mono ?_
   rintro e w1 ⟨hb1, (⟨p, n, v, hc1, rfl, hrow1⟩ | ⟨hc1, rfl⟩)⟩
   case inr =>
     have HD : Hid (decide (OwnL l) = false) := decide_eq_false fun h => by
       have h1 := h.2.2 t (List.mem_of_getElem? HXM.out)
       rw [hc1] at h1
       cases h1
     have B1 := Lib.hid hb1
     clear hb1 hc1 H34 c1 hb hprev
     go_wp2_with fail
     go_ret
     exact ⟨by rw [HD.out] <;> rfl, HB.out.trans ((B1.out.alloc B1.out.size _).mono hsz)⟩
   obtain ⟨A1, cc1, rfl⟩ := hrow1.slice
   have HCAT : Hid ((catOf t).isSome = true) := by unfold Hid; rw [hc1]; rfl
   have B1 := Lib.hid hb1
   clear hb1 hc1 hrow1 H34 c1 hb
   by_cases hm0 : m = 0
   · subst hm0
     have HG2 := Lib.hid (goodO_first HXM.out HCAT.out)
     clear hprev
     go_wp2_with fail
     go_roundg j
     case measure => omega
     case rel => exact ⟨1, by have := HM.out; omega, by go_num, HG2.out, HB.out.trans ((B1.out.alloc B1.out.size _).mono hsz)⟩
   · obtain ⟨k, rfl⟩ : ∃ k, m = k + 1 := ⟨m - 1, by omega⟩
     obtain ⟨q, hp, cq, hql⟩ := hprev.out k rfl
     obtain ⟨y, hy⟩ : ∃ y, y = cmpC q t := ⟨_, rfl⟩
     have hBW : Hid (∀ W, Below wr.heap.size wr W → Calls Tryz.prog 108 #[.string (str q), .string (str t)] W fun e w' => e = .returned (.int .i64 y) ∧ Below wr.heap.size wr w') := fun W h => by
       rw [hy]
       exact (refCompare_any hql htl).mono fun e w' h2 => ⟨h2.1, h.trans (h2.2.mono h.size)⟩
     have CQ : Hid (∀ W, Below wr.heap.size wr W → W.cell? ⟨b, o + k, none⟩ = some (.string (str q))) := fun W h => (h.cell (p := ⟨b, o + k, none⟩) hlt2).trans cq
     have HY := Lib.hid hy
     have HPM := Lib.hid hp
     have hk2 : ¬ ((k : Int) < 0) := by omega
     have hk3 : (k : Int) < (l.length : Int) := by omega
     have hm1 : (k : Int) + 1 > 0 := by omega
     obtain ⟨W0, hW0⟩ : ∃ W0, W0 = w1.alloc (.cells #[.slice A1 p.length cc1, .int .i64 (n : Int)] 147) := ⟨_, rfl⟩
     have BW0 : Hid (Below wr.heap.size wr W0) := by rw [hW0]; exact B1.out.alloc B1.out.size _
     have cq1 : (w1.alloc (.cells #[.slice A1 p.length cc1, .int .i64 (n : Int)] 147)).cell? ⟨b, o + k, none⟩ = some (.string (str q)) := by rw [← hW0]; exact CQ.out W0 BW0.out
     have HW0 := Lib.hid hW0
     have H44 := Lib.hid (hBW.out W0 BW0.out)
     clear hprev hy hp cq hm0 hW0
     go_wp2_with fail
     rw [← HW0.out]
     refine H44.out.mono ?_
     rintro e w2 ⟨rfl, hb2⟩
     have B2 : Hid (Below w.heap.size w w2) := HB.out.trans (hb2.mono hsz)
     clear hb2 H44 cq1
     by_cases hy1 : y = -1
     · have HG2 : Hid (GoodO (l.take (k + 1 + 1))) := by
        exact goodO_next HG.out HPM.out HXM.out HCAT.out (HY.out.symm.trans hy1)
       subst hy1
       clear hk2 hk3
       go_wp2_with fail
       go_roundg j
       case measure => omega
       case rel => exact ⟨k + 1 + 1, by have := HM.out; omega, by go_num, HG2.out, B2.out⟩
     · have HD : Hid (decide (OwnL l) = false) := decide_eq_false (by
        exact badO_next HPM.out HXM.out fun h => hy1 (HY.out.trans h))
       have hy2 : ((y : Int) == (-1 : Int)) = false := by simpa using hy1
       clear hk2 hk3 hy1
       go_wp2_with fail
       go_ret
       exact ⟨by rw [HD.out] <;> rfl, B2.out⟩
set_option maxRecDepth 100000 in
theorem refIn_any (n l m : Int) (w : World) : Calls Tryz.prog 64 #[.int .i64 n, .int .i64 l, .int .i64 m] w fun e w' => e = .returned (.bool (decide (l ≤ n ∧ n ≤ m))) ∧ w = w' := by
 by_cases h1 : l ≤ n
 · by_cases h2 : n ≤ m
   · rw [decide_eq_true ⟨h1, h2⟩]
     go_enter Tryz.func64, Tryz.ntmps64
     go_wp2_with fail
     go_ret
     exact ⟨rfl, rfl⟩
   · rw [decide_eq_false fun h => h2 h.2]
     go_enter Tryz.func64, Tryz.ntmps64
     go_wp2_with fail
     go_ret
     exact ⟨rfl, rfl⟩
 · rw [decide_eq_false fun h => h1 h.1]
   go_enter Tryz.func64, Tryz.ntmps64
   go_wp2_with fail
   go_ret
   exact ⟨rfl, rfl⟩
end Go.Proofs.YtgcbfggoddkhnaaGreatDoor
