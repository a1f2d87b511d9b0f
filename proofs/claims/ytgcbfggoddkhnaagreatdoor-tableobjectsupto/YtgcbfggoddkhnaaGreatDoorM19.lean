/- Lemmas for the law: Zw. -/
import Derived.Test.YtgcbfggoddkhnaaGreatDoorM18
namespace Go.Proofs.YtgcbfggoddkhnaaGreatDoor
open Go.RowKit
theorem own_sl {w : World} {base : Nat} {e : TypeId} {size n : Nat} {v : Value} {xs : List Value} (h : w.ownsRow base e size v n xs) : ∃ A c, v = .slice A n c := by
 obtain ⟨A, c, h1, _⟩ := slv_row h
 exact ⟨A, c, h1⟩
theorem own_sl3 {w : World} {base : Nat} {e : TypeId} {size n : Nat} {v : Value} {xs : List Value} (h : w.ownsRow base e size v n xs) : ∃ A m c, v = .slice A m c ∧ m = n := by
 obtain ⟨A, c, h1, _⟩ := slv_row h
 exact ⟨A, n, c, h1, rfl⟩
theorem tapeS_errs {w : World} {g : Nat} {k : Option Nat} {s : St} (h : TapeS w g k s) :
   (s.2 = true → Calls Tryz.prog 126 #[.pointer (some ⟨g, 0, none⟩)] w fun e w' => e = .returned .nilIface ∧ w' = w) ∧
   (s.2 = false → ∃ T x, Calls Tryz.prog 126 #[.pointer (some ⟨g, 0, none⟩)] w fun e w' => e = .returned (.iface T x) ∧ w' = w) := by
 rcases h with ⟨h1, h2⟩ | ⟨h1, T, x, h2⟩
 · exact ⟨fun _ => (Tp.tape_err h2).mono fun e w' ⟨a, b⟩ => ⟨a, b.symm⟩, fun h => absurd h (by rw [h1]; decide)⟩
 · exact ⟨fun h => absurd h (by rw [h1]; decide), fun _ => ⟨T, x, (Tp.tape_err h2).mono fun e w' ⟨a, b⟩ => ⟨a, b.symm⟩⟩⟩
set_option maxRecDepth 100000 in
set_option maxHeartbeats 1000000 in
theorem tget_any {w : World} {g : Nat} {k : Option Nat} {s : St} (he : Env w) (hg8 : 8 ≤ g) (ht : TapeS w g k s) (hs : Tp.Sml s.1) (hn : s.1.length ≤ 80000000) :
   Calls Tryz.prog 91 #[.pointer (some ⟨g, 0, none⟩)] w fun e w' => GotS w g k (itemS s).2 w' ∧ RetItem w s e w' := by
 have HIT : Hid (itemS s = (((pathS s).1, (⟨(nS 5 ((pathS s).2)).1, (labS ((nS 5 ((pathS s).2)).2)).1, (kidsS ((labS ((nS 5 ((pathS s).2)).2)).2)).1, (nS 1048577 ((kidsS ((labS ((nS 5 ((pathS s).2)).2)).2)).2)).1, (tS 256 ((nS 1048577 ((kidsS ((labS ((nS 5 ((pathS s).2)).2)).2)).2)).2)).1, (ownS ((tS 256 ((nS 1048577 ((kidsS ((labS ((nS 5 ((pathS s).2)).2)).2)).2)).2)).2)).1, (nS 65536 ((ownS ((tS 256 ((nS 1048577 ((kidsS ((labS ((nS 5 ((pathS s).2)).2)).2)).2)).2)).2)).2)).1, (labS ((nS 65536 ((ownS ((tS 256 ((nS 1048577 ((kidsS ((labS ((nS 5 ((pathS s).2)).2)).2)).2)).2)).2)).2)).2)).1, (nS 1048576 ((labS ((nS 65536 ((ownS ((tS 256 ((nS 1048577 ((kidsS ((labS ((nS 5 ((pathS s).2)).2)).2)).2)).2)).2)).2)).2)).2)).1, (mapsS ((nS 1048576 ((labS ((nS 65536 ((ownS ((tS 256 ((nS 1048577 ((kidsS ((labS ((nS 5 ((pathS s).2)).2)).2)).2)).2)).2)).2)).2)).2)).2)).1⟩ : Ob)), (mapsS ((nS 1048576 ((labS ((nS 65536 ((ownS ((tS 256 ((nS 1048577 ((kidsS ((labS ((nS 5 ((pathS s).2)).2)).2)).2)).2)).2)).2)).2)).2)).2)).2)) := rfl
 have hglt := ht.lt
 have HKL := Lib.hid ht.row_lt
 have HE := Lib.hid he
 have M0 : Hid (Tp.Sml s.1 ∧ s.1.length ≤ 80000000) := ⟨hs, hn⟩
 obtain ⟨pv, hpv⟩ : ∃ x, x = (pathS s).1 := ⟨_, rfl⟩
 obtain ⟨s1, hs1⟩ : ∃ x, x = (pathS s).2 := ⟨_, rfl⟩
 rw [← hpv, ← hs1] at HIT
 have M1 : Hid (Tp.Sml s1.1 ∧ s1.1.length ≤ 80000000) := by rw [hs1]; exact ⟨(pathS_reads).sml M0.out.1, Nat.le_trans ((pathS_reads).len _) M0.out.2⟩
 have U1 : Hid (s1.2 = true → s.2 = true) := fun h => ((pathS_reads).sound s M0.out.1 (by rw [← hs1]; exact h)).1
 have V1 := Lib.hid hpv
 have W1 := Lib.hid hs1
 obtain ⟨zk, hzk⟩ : ∃ x, x = (nS 5 s1).1 := ⟨_, rfl⟩
 obtain ⟨s2, hs2⟩ : ∃ x, x = (nS 5 s1).2 := ⟨_, rfl⟩
 rw [← hzk, ← hs2] at HIT
 have M2 : Hid (Tp.Sml s2.1 ∧ s2.1.length ≤ 80000000) := by rw [hs2]; exact ⟨(nS_reads (most := 5) (by omega)).sml M1.out.1, Nat.le_trans ((nS_reads (most := 5) (by omega)).len _) M1.out.2⟩
 have U2 : Hid (s2.2 = true → s1.2 = true) := fun h => ((nS_reads (most := 5) (by omega)).sound s1 M1.out.1 (by rw [← hs2]; exact h)).1
 have V2 := Lib.hid hzk
 have W2 := Lib.hid hs2
 obtain ⟨lb, hlb⟩ : ∃ x, x = (labS s2).1 := ⟨_, rfl⟩
 obtain ⟨s3, hs3⟩ : ∃ x, x = (labS s2).2 := ⟨_, rfl⟩
 rw [← hlb, ← hs3] at HIT
 have M3 : Hid (Tp.Sml s3.1 ∧ s3.1.length ≤ 80000000) := by rw [hs3]; exact ⟨(labS_reads).sml M2.out.1, Nat.le_trans ((labS_reads).len _) M2.out.2⟩
 have U3 : Hid (s3.2 = true → s2.2 = true) := fun h => ((labS_reads).sound s2 M2.out.1 (by rw [← hs3]; exact h)).1
 have V3 := Lib.hid hlb
 have W3 := Lib.hid hs3
 obtain ⟨ks, hks⟩ : ∃ x, x = (kidsS s3).1 := ⟨_, rfl⟩
 obtain ⟨s4, hs4⟩ : ∃ x, x = (kidsS s3).2 := ⟨_, rfl⟩
 rw [← hks, ← hs4] at HIT
 have M4 : Hid (Tp.Sml s4.1 ∧ s4.1.length ≤ 80000000) := by rw [hs4]; exact ⟨(kidsS_reads).sml M3.out.1, Nat.le_trans ((kidsS_reads).len _) M3.out.2⟩
 have U4 : Hid (s4.2 = true → s3.2 = true) := fun h => ((kidsS_reads).sound s3 M3.out.1 (by rw [← hs4]; exact h)).1
 have V4 := Lib.hid hks
 have W4 := Lib.hid hs4
 obtain ⟨nx, hnx⟩ : ∃ x, x = (nS 1048577 s4).1 := ⟨_, rfl⟩
 obtain ⟨s5, hs5⟩ : ∃ x, x = (nS 1048577 s4).2 := ⟨_, rfl⟩
 rw [← hnx, ← hs5] at HIT
 have M5 : Hid (Tp.Sml s5.1 ∧ s5.1.length ≤ 80000000) := by rw [hs5]; exact ⟨(nS_reads (most := 1048577) (by omega)).sml M4.out.1, Nat.le_trans ((nS_reads (most := 1048577) (by omega)).len _) M4.out.2⟩
 have U5 : Hid (s5.2 = true → s4.2 = true) := fun h => ((nS_reads (most := 1048577) (by omega)).sound s4 M4.out.1 (by rw [← hs5]; exact h)).1
 have V5 := Lib.hid hnx
 have W5 := Lib.hid hs5
 obtain ⟨bs, hbs⟩ : ∃ x, x = (tS 256 s5).1 := ⟨_, rfl⟩
 obtain ⟨s6, hs6⟩ : ∃ x, x = (tS 256 s5).2 := ⟨_, rfl⟩
 rw [← hbs, ← hs6] at HIT
 have M6 : Hid (Tp.Sml s6.1 ∧ s6.1.length ≤ 80000000) := by rw [hs6]; exact ⟨(tS_reads (most := 256) (by omega)).sml M5.out.1, Nat.le_trans ((tS_reads (most := 256) (by omega)).len _) M5.out.2⟩
 have U6 : Hid (s6.2 = true → s5.2 = true) := fun h => ((tS_reads (most := 256) (by omega)).sound s5 M5.out.1 (by rw [← hs6]; exact h)).1
 have V6 := Lib.hid hbs
 have W6 := Lib.hid hs6
 obtain ⟨ow, how⟩ : ∃ x, x = (ownS s6).1 := ⟨_, rfl⟩
 obtain ⟨s7, hs7⟩ : ∃ x, x = (ownS s6).2 := ⟨_, rfl⟩
 rw [← how, ← hs7] at HIT
 have M7 : Hid (Tp.Sml s7.1 ∧ s7.1.length ≤ 80000000) := by rw [hs7]; exact ⟨(ownS_reads).sml M6.out.1, Nat.le_trans ((ownS_reads).len _) M6.out.2⟩
 have U7 : Hid (s7.2 = true → s6.2 = true) := fun h => ((ownS_reads).sound s6 M6.out.1 (by rw [← hs7]; exact h)).1
 have V7 := Lib.hid how
 have W7 := Lib.hid hs7
 obtain ⟨ca, hca⟩ : ∃ x, x = (nS 65536 s7).1 := ⟨_, rfl⟩
 obtain ⟨s8, hs8⟩ : ∃ x, x = (nS 65536 s7).2 := ⟨_, rfl⟩
 rw [← hca, ← hs8] at HIT
 have M8 : Hid (Tp.Sml s8.1 ∧ s8.1.length ≤ 80000000) := by rw [hs8]; exact ⟨(nS_reads (most := 65536) (by omega)).sml M7.out.1, Nat.le_trans ((nS_reads (most := 65536) (by omega)).len _) M7.out.2⟩
 have U8 : Hid (s8.2 = true → s7.2 = true) := fun h => ((nS_reads (most := 65536) (by omega)).sound s7 M7.out.1 (by rw [← hs8]; exact h)).1
 have V8 := Lib.hid hca
 have W8 := Lib.hid hs8
 obtain ⟨en, hen⟩ : ∃ x, x = (labS s8).1 := ⟨_, rfl⟩
 obtain ⟨s9, hs9⟩ : ∃ x, x = (labS s8).2 := ⟨_, rfl⟩
 rw [← hen, ← hs9] at HIT
 have M9 : Hid (Tp.Sml s9.1 ∧ s9.1.length ≤ 80000000) := by rw [hs9]; exact ⟨(labS_reads).sml M8.out.1, Nat.le_trans ((labS_reads).len _) M8.out.2⟩
 have U9 : Hid (s9.2 = true → s8.2 = true) := fun h => ((labS_reads).sound s8 M8.out.1 (by rw [← hs9]; exact h)).1
 have V9 := Lib.hid hen
 have W9 := Lib.hid hs9
 obtain ⟨ri, hri⟩ : ∃ x, x = (nS 1048576 s9).1 := ⟨_, rfl⟩
 obtain ⟨s10, hs10⟩ : ∃ x, x = (nS 1048576 s9).2 := ⟨_, rfl⟩
 rw [← hri, ← hs10] at HIT
 have M10 : Hid (Tp.Sml s10.1 ∧ s10.1.length ≤ 80000000) := by rw [hs10]; exact ⟨(nS_reads (most := 1048576) (by omega)).sml M9.out.1, Nat.le_trans ((nS_reads (most := 1048576) (by omega)).len _) M9.out.2⟩
 have U10 : Hid (s10.2 = true → s9.2 = true) := fun h => ((nS_reads (most := 1048576) (by omega)).sound s9 M9.out.1 (by rw [← hs10]; exact h)).1
 have V10 := Lib.hid hri
 have W10 := Lib.hid hs10
 obtain ⟨ms, hms⟩ : ∃ x, x = (mapsS s10).1 := ⟨_, rfl⟩
 obtain ⟨s11, hs11⟩ : ∃ x, x = (mapsS s10).2 := ⟨_, rfl⟩
 rw [← hms, ← hs11] at HIT
 have M11 : Hid (Tp.Sml s11.1 ∧ s11.1.length ≤ 80000000) := by rw [hs11]; exact ⟨(mapsS_reads).sml M10.out.1, Nat.le_trans ((mapsS_reads).len _) M10.out.2⟩
 have U11 : Hid (s11.2 = true → s10.2 = true) := fun h => ((mapsS_reads).sound s10 M10.out.1 (by rw [← hs11]; exact h)).1
 have V11 := Lib.hid hms
 have W11 := Lib.hid hs11
 clear hs hn he hpv hs1 hzk hs2 hlb hs3 hks hs4 hnx hs5 hbs hs6 how hs7 hca hs8 hen hs9 hri hs10 hms hs11
 obtain ⟨w0, hw0⟩ : ∃ W, W = ((w.alloc (.cells #[.int .i64 0, .slice none 0 0, .slice none 0 0, .int .i64 0, .slice none 0 0, .slice none 0 0, .int .i64 0, .slice none 0 0, .int .i64 0, .slice none 0 0] 29)).alloc (.cells #[.int .i64 0, .slice none 0 0, .slice none 0 0, .int .i64 0, .slice none 0 0, .slice none 0 0, .int .i64 0, .slice none 0 0, .int .i64 0, .slice none 0 0] 29)).alloc (.cells #[.int .i64 0, .int .i64 0, .int .i64 0, .int .i64 0, .int .i64 0] 171) := ⟨_, rfl⟩
 have ha1 := (Below.refl w.heap.size w).alloc (Nat.le_refl _) (.cells #[.int .i64 0, .slice none 0 0, .slice none 0 0, .int .i64 0, .slice none 0 0, .slice none 0 0, .int .i64 0, .slice none 0 0, .int .i64 0, .slice none 0 0] 29)
 have ha2 := ha1.alloc ha1.size (.cells #[.int .i64 0, .slice none 0 0, .slice none 0 0, .int .i64 0, .slice none 0 0, .slice none 0 0, .int .i64 0, .slice none 0 0, .int .i64 0, .slice none 0 0] 29)
 have ha3 := ha2.alloc ha2.size (.cells #[.int .i64 0, .int .i64 0, .int .i64 0, .int .i64 0, .int .i64 0] 171)
 have hz1 : (w.alloc (.cells #[.int .i64 0, .slice none 0 0, .slice none 0 0, .int .i64 0, .slice none 0 0, .slice none 0 0, .int .i64 0, .slice none 0 0, .int .i64 0, .slice none 0 0] 29)).heap.size = w.heap.size + 1 := by simp
 have hz2 : ((w.alloc (.cells #[.int .i64 0, .slice none 0 0, .slice none 0 0, .int .i64 0, .slice none 0 0, .slice none 0 0, .int .i64 0, .slice none 0 0, .int .i64 0, .slice none 0 0] 29)).alloc (.cells #[.int .i64 0, .slice none 0 0, .slice none 0 0, .int .i64 0, .slice none 0 0, .slice none 0 0, .int .i64 0, .slice none 0 0, .int .i64 0, .slice none 0 0] 29)).heap.size = w.heap.size + 1 + 1 := by simp
 have hz3 : w0.heap.size = w.heap.size + 1 + 1 + 1 := by rw [hw0]; simp
 have XR : Hid (BoxAt w0 (w.heap.size) #[.int .i64 0, .slice none 0 0, .slice none 0 0, .int .i64 0, .slice none 0 0, .slice none 0 0, .int .i64 0, .slice none 0 0, .int .i64 0, .slice none 0 0] 29) := by rw [Hid, hw0]; exact ((BoxAt.new w #[.int .i64 0, .slice none 0 0, .slice none 0 0, .int .i64 0, .slice none 0 0, .slice none 0 0, .int .i64 0, .slice none 0 0, .int .i64 0, .slice none 0 0] 29).alloc _).alloc _
 have XO : Hid (BoxAt w0 (w.heap.size + 1) #[.int .i64 0, .slice none 0 0, .slice none 0 0, .int .i64 0, .slice none 0 0, .slice none 0 0, .int .i64 0, .slice none 0 0, .int .i64 0, .slice none 0 0] 29) := by rw [Hid, hw0, ← hz1]; exact (BoxAt.new _ #[.int .i64 0, .slice none 0 0, .slice none 0 0, .int .i64 0, .slice none 0 0, .slice none 0 0, .int .i64 0, .slice none 0 0, .int .i64 0, .slice none 0 0] 29).alloc _
 have XE : Hid (BoxAt w0 (w.heap.size + 1 + 1) #[.int .i64 0, .int .i64 0, .int .i64 0, .int .i64 0, .int .i64 0] 171) := by rw [Hid, hw0, ← hz2]; exact BoxAt.new _ #[.int .i64 0, .int .i64 0, .int .i64 0, .int .i64 0, .int .i64 0] 171
 rw [← hw0] at ha3
 have T := Lib.hid (ht.on ha3)
 have K : Hid (Tp.Kp (fun b => b = g) w w0) := Tp.Kp.of_below ha3 _
 have HZ3 := Lib.hid hz3
 clear ht ha1 ha2 ha3 hz1 hz2 hz3
 go_enter Tryz.func91, Tryz.ntmps91
 have HF0 : Hid (∀ b, (b = g ∨ b = w.heap.size + 1 ∨ b = w.heap.size + 1 + 1) → b < w.heap.size + 1 + 1 + 1) := fun b h => by omega
 have HSZ : Hid (w.heap.size + 1 + 1 + 1 ≤ w0.heap.size) := by rw [Hid, HZ3.out]; exact Nat.le_refl _
 have J := pathGet_any T.out M0.out.1 M0.out.2
 rw [← W1.out] at J
 have J := Lib.hid J
 go_wp2_with fail
 rw [← hw0]
 clear hw0
 refine J.out.mono ?_
 rintro e y1 ⟨⟨ht', hk⟩, hr⟩
 rw [← V1.out] at hr
 replace hr : (s1.2 = true ∧ _) ∨ (s1.2 = false ∧ _) := hr
 obtain ⟨AP, nP, cP, zP, rfl, HP, QP⟩ : ∃ A n c z, e = .returned (.tuple #[.slice A n c, .int .i64 z]) ∧ Hid ((s1.2 = true) ↔ z = 0) ∧ Hid ((s1.2 = true) → SlV y1 (fun b => b < w.heap.size + 1 + 1 + 1) (.slice A n c) pv.length (Pa.zCellsOf pv)) := by
   rcases hr with ⟨h1, v, rfl, h2⟩ | ⟨h1, rfl⟩
   · obtain ⟨A, c, rfl⟩ := Pa.ZRow.slice h2
     exact ⟨A, _, c, 0, rfl, ⟨fun _ => rfl, fun _ => h1⟩, fun _ => (slv_row (base := w0.heap.size) h2).on (Below.refl _ _) fun b _ hb => Nat.lt_of_lt_of_le hb HSZ.out⟩
   · exact ⟨none, 0, 0, 10, rfl, ⟨fun h => absurd h (by rw [h1]; decide), fun h => by cases h⟩, fun h => absurd h (by rw [h1]; decide)⟩
 clear hr
 have xr := XR.out.kp hk (by omega)
 have xo := XO.out.kp hk (by omega)
 have xe := XE.out.kp hk (by omega)
 have fo := xo.frozen
 have fe := xe.frozen
 obtain ⟨k0, k1, k2, k3, k4, k5, k6, k7, k8, k9⟩ := box10 xo
 have l0 := xe.cell (k := 0) rfl
 have l1 := xe.cell (k := 1) rfl
 have l2 := xe.cell (k := 2) rfl
 have l3 := xe.cell (k := 3) rfl
 have l4 := xe.cell (k := 4) rfl
 have hst : Tp.Kp (fun b => b = w.heap.size + 1 ∨ b = w.heap.size + 1 + 1) y1 (y1.setCell ⟨w.heap.size + 1 + 1, 0, none⟩ (.int .i64 zP)) := ((Tp.Kp.refl (fun b => b = w.heap.size + 1 ∨ b = w.heap.size + 1 + 1) y1).setCell (p := ⟨w.heap.size + 1 + 1, 0, none⟩) (fun _ => .inr rfl) _)
 have hkk : Tp.Kp (fun b => b = g ∨ b = w.heap.size + 1 ∨ b = w.heap.size + 1 + 1) w0 (y1.setCell ⟨w.heap.size + 1 + 1, 0, none⟩ (.int .i64 zP)) := (hk.more fun b _ e => .inl e).andThen hst fun b _ e => .inr e
 have XR := Lib.hid (xr.kp hst (by omega))
 have XO : Hid (BoxAt (y1.setCell ⟨w.heap.size + 1 + 1, 0, none⟩ (.int .i64 zP)) (w.heap.size + 1) #[.int .i64 0, .slice none 0 0, .slice none 0 0, .int .i64 0, .slice none 0 0, .slice none 0 0, .int .i64 0, .slice none 0 0, .int .i64 0, .slice none 0 0] 29) := (xo.far (a := ⟨w.heap.size + 1 + 1, 0, none⟩) (by simp only; omega) (.int .i64 zP))
 have XE : Hid (BoxAt (y1.setCell ⟨w.heap.size + 1 + 1, 0, none⟩ (.int .i64 zP)) (w.heap.size + 1 + 1) #[.int .i64 zP, .int .i64 0, .int .i64 0, .int .i64 0, .int .i64 0] 171) := (xe.setL 0 (.int .i64 zP))
 have T := Lib.hid (ht'.kp hst (by omega) (fun j hj => by have := HKL.out j hj; omega))
 have K := Lib.hid (K.out.andThen hkk fun b _ e => by omega)
 have HSZ : Hid (w.heap.size + 1 + 1 + 1 ≤ (y1.setCell ⟨w.heap.size + 1 + 1, 0, none⟩ (.int .i64 zP)).heap.size) := Nat.le_trans HSZ.out hkk.size
 have QP : Hid (s1.2 = true → SlV (y1.setCell ⟨w.heap.size + 1 + 1, 0, none⟩ (.int .i64 zP)) (fun b => b < w.heap.size + 1 + 1 + 1) (.slice AP nP cP) pv.length (Pa.zCellsOf pv)) := fun h => (QP.out h).kp hst (fun b _ e => HF0.out b (.inr e)) (fun _ _ h => h)
 obtain ⟨w1, hx1⟩ : ∃ W, W = (y1.setCell ⟨w.heap.size + 1 + 1, 0, none⟩ (.int .i64 zP)) := ⟨_, rfl⟩
 rw [← hx1] at XR XO XE T K HSZ QP
 clear xr xo xe hst hkk hk ht'
 have J := tapeS_num (most := 5) T.out M1.out.1 M1.out.2
 rw [← V2.out, ← W2.out] at J
 have J := Lib.hid J
 go_wp2_with fail
 rw [← hx1]
 clear hx1 k0 k1 k2 k3 k4 k5 k6 k7 k8 k9 l0 l1 l2 l3 l4 fo fe
 refine J.out.mono ?_
 rintro e y2 ⟨rfl, ht', hk⟩
 have xr := XR.out.kp hk (by omega)
 have xo := XO.out.kp hk (by omega)
 have xe := XE.out.kp hk (by omega)
 have fo := xo.frozen
 have fe := xe.frozen
 obtain ⟨k0, k1, k2, k3, k4, k5, k6, k7, k8, k9⟩ := box10 xo
 have l0 := xe.cell (k := 0) rfl
 have l1 := xe.cell (k := 1) rfl
 have l2 := xe.cell (k := 2) rfl
 have l3 := xe.cell (k := 3) rfl
 have l4 := xe.cell (k := 4) rfl
 have hst : Tp.Kp (fun b => b = w.heap.size + 1 ∨ b = w.heap.size + 1 + 1) y2 (y2.setCell ⟨w.heap.size + 1, 0, none⟩ (.int .i64 zk)) := ((Tp.Kp.refl (fun b => b = w.heap.size + 1 ∨ b = w.heap.size + 1 + 1) y2).setCell (p := ⟨w.heap.size + 1, 0, none⟩) (fun _ => .inl rfl) _)
 have hkk : Tp.Kp (fun b => b = g ∨ b = w.heap.size + 1 ∨ b = w.heap.size + 1 + 1) w1 (y2.setCell ⟨w.heap.size + 1, 0, none⟩ (.int .i64 zk)) := (hk.more fun b _ e => .inl e).andThen hst fun b _ e => .inr e
 have XR := Lib.hid (xr.kp hst (by omega))
 have XO : Hid (BoxAt (y2.setCell ⟨w.heap.size + 1, 0, none⟩ (.int .i64 zk)) (w.heap.size + 1) #[.int .i64 zk, .slice none 0 0, .slice none 0 0, .int .i64 0, .slice none 0 0, .slice none 0 0, .int .i64 0, .slice none 0 0, .int .i64 0, .slice none 0 0] 29) := (xo.setL 0 (.int .i64 zk))
 have XE : Hid (BoxAt (y2.setCell ⟨w.heap.size + 1, 0, none⟩ (.int .i64 zk)) (w.heap.size + 1 + 1) #[.int .i64 zP, .int .i64 0, .int .i64 0, .int .i64 0, .int .i64 0] 171) := (xe.far (a := ⟨w.heap.size + 1, 0, none⟩) (by simp only; omega) (.int .i64 zk))
 have T := Lib.hid (ht'.kp hst (by omega) (fun j hj => by have := HKL.out j hj; omega))
 have K := Lib.hid (K.out.andThen hkk fun b _ e => by omega)
 have HSZ : Hid (w.heap.size + 1 + 1 + 1 ≤ (y2.setCell ⟨w.heap.size + 1, 0, none⟩ (.int .i64 zk)).heap.size) := Nat.le_trans HSZ.out hkk.size
 have QP : Hid (s1.2 = true → SlV (y2.setCell ⟨w.heap.size + 1, 0, none⟩ (.int .i64 zk)) (fun b => b < w.heap.size + 1 + 1 + 1) (.slice AP nP cP) pv.length (Pa.zCellsOf pv)) := fun h => (QP.out h).kp hkk (fun b _ e => HF0.out b e) (fun _ _ h => h)
 obtain ⟨w2, hx2⟩ : ∃ W, W = (y2.setCell ⟨w.heap.size + 1, 0, none⟩ (.int .i64 zk)) := ⟨_, rfl⟩
 rw [← hx2] at XR XO XE T K HSZ QP
 clear xr xo xe hst hkk hk ht'
 have J := labelGet_any (HE.out.below (K.out.below HE.out.1 (fun j hj => by rw [hj]; exact hg8)) (Nat.le_refl _)) hg8 T.out M2.out.1 M2.out.2
 rw [← W3.out] at J
 have J := Lib.hid J
 go_wp2_with fail
 rw [← hx2]
 clear hx2 k0 k1 k2 k3 k4 k5 k6 k7 k8 k9 l0 l1 l2 l3 l4 fo fe
 refine J.out.mono ?_
 rintro e y3 ⟨⟨ht', hk⟩, hr⟩
 rw [← V3.out] at hr
 obtain ⟨AL, nL, cL, zL, rfl, HL, QL⟩ : ∃ A n c z, e = .returned (.tuple #[.slice A n c, .int .i64 z]) ∧ Hid ((okL s2) ↔ z = 0) ∧ Hid ((okL s2) → SlV y3 (fun b => b < w.heap.size + 1 + 1 + 1) (.slice A n c) lb.length (entCells lb)) := by
   rcases hr with ⟨h1, v, rfl, h2⟩ | ⟨h1, rfl⟩
   · obtain ⟨A, c, rfl⟩ := own_sl h2
     exact ⟨A, _, c, 0, rfl, ⟨fun _ => rfl, fun _ => h1⟩, fun _ => (slv_row (base := w2.heap.size) h2).on (Below.refl _ _) fun b _ hb => Nat.lt_of_lt_of_le hb HSZ.out⟩
   · exact ⟨none, 0, 0, 10, rfl, ⟨fun h => absurd h h1, fun h => by cases h⟩, fun h => absurd h h1⟩
 clear hr
 have xr := XR.out.kp hk (by omega)
 have xo := XO.out.kp hk (by omega)
 have xe := XE.out.kp hk (by omega)
 have fo := xo.frozen
 have fe := xe.frozen
 obtain ⟨k0, k1, k2, k3, k4, k5, k6, k7, k8, k9⟩ := box10 xo
 have l0 := xe.cell (k := 0) rfl
 have l1 := xe.cell (k := 1) rfl
 have l2 := xe.cell (k := 2) rfl
 have l3 := xe.cell (k := 3) rfl
 have l4 := xe.cell (k := 4) rfl
 have hst : Tp.Kp (fun b => b = w.heap.size + 1 ∨ b = w.heap.size + 1 + 1) y3 ((y3.setCell ⟨w.heap.size + 1, 1, none⟩ (.slice AL nL cL)).setCell ⟨w.heap.size + 1 + 1, 1, none⟩ (.int .i64 zL)) := (((Tp.Kp.refl (fun b => b = w.heap.size + 1 ∨ b = w.heap.size + 1 + 1) y3).setCell (p := ⟨w.heap.size + 1, 1, none⟩) (fun _ => .inl rfl) _).setCell (p := ⟨w.heap.size + 1 + 1, 1, none⟩) (fun _ => .inr rfl) _)
 have hkk : Tp.Kp (fun b => b = g ∨ b = w.heap.size + 1 ∨ b = w.heap.size + 1 + 1) w2 ((y3.setCell ⟨w.heap.size + 1, 1, none⟩ (.slice AL nL cL)).setCell ⟨w.heap.size + 1 + 1, 1, none⟩ (.int .i64 zL)) := (hk.more fun b _ e => .inl e).andThen hst fun b _ e => .inr e
 have XR := Lib.hid (xr.kp hst (by omega))
 have XO : Hid (BoxAt ((y3.setCell ⟨w.heap.size + 1, 1, none⟩ (.slice AL nL cL)).setCell ⟨w.heap.size + 1 + 1, 1, none⟩ (.int .i64 zL)) (w.heap.size + 1) #[.int .i64 zk, .slice AL nL cL, .slice none 0 0, .int .i64 0, .slice none 0 0, .slice none 0 0, .int .i64 0, .slice none 0 0, .int .i64 0, .slice none 0 0] 29) := ((xo.setL 1 (.slice AL nL cL)).far (a := ⟨w.heap.size + 1 + 1, 1, none⟩) (by simp only; omega) (.int .i64 zL))
 have XE : Hid (BoxAt ((y3.setCell ⟨w.heap.size + 1, 1, none⟩ (.slice AL nL cL)).setCell ⟨w.heap.size + 1 + 1, 1, none⟩ (.int .i64 zL)) (w.heap.size + 1 + 1) #[.int .i64 zP, .int .i64 zL, .int .i64 0, .int .i64 0, .int .i64 0] 171) := ((xe.far (a := ⟨w.heap.size + 1, 1, none⟩) (by simp only; omega) (.slice AL nL cL)).setL 1 (.int .i64 zL))
 have T := Lib.hid (ht'.kp hst (by omega) (fun j hj => by have := HKL.out j hj; omega))
 have K := Lib.hid (K.out.andThen hkk fun b _ e => by omega)
 have HSZ : Hid (w.heap.size + 1 + 1 + 1 ≤ ((y3.setCell ⟨w.heap.size + 1, 1, none⟩ (.slice AL nL cL)).setCell ⟨w.heap.size + 1 + 1, 1, none⟩ (.int .i64 zL)).heap.size) := Nat.le_trans HSZ.out hkk.size
 have QP : Hid (s1.2 = true → SlV ((y3.setCell ⟨w.heap.size + 1, 1, none⟩ (.slice AL nL cL)).setCell ⟨w.heap.size + 1 + 1, 1, none⟩ (.int .i64 zL)) (fun b => b < w.heap.size + 1 + 1 + 1) (.slice AP nP cP) pv.length (Pa.zCellsOf pv)) := fun h => (QP.out h).kp hkk (fun b _ e => HF0.out b e) (fun _ _ h => h)
 have QL : Hid (okL s2 → SlV ((y3.setCell ⟨w.heap.size + 1, 1, none⟩ (.slice AL nL cL)).setCell ⟨w.heap.size + 1 + 1, 1, none⟩ (.int .i64 zL)) (fun b => b < w.heap.size + 1 + 1 + 1) (.slice AL nL cL) lb.length (entCells lb)) := fun h => (QL.out h).kp hst (fun b _ e => HF0.out b (.inr e)) (fun _ _ h => h)
 obtain ⟨w3, hx3⟩ : ∃ W, W = ((y3.setCell ⟨w.heap.size + 1, 1, none⟩ (.slice AL nL cL)).setCell ⟨w.heap.size + 1 + 1, 1, none⟩ (.int .i64 zL)) := ⟨_, rfl⟩
 rw [← hx3] at XR XO XE T K HSZ QP QL
 clear xr xo xe hst hkk hk ht'
 have J := getKids_any T.out M3.out.1 M3.out.2
 rw [← W4.out] at J
 have J := Lib.hid J
 go_wp2_with fail
 rw [← hx3]
 clear hx3 k0 k1 k2 k3 k4 k5 k6 k7 k8 k9 l0 l1 l2 l3 l4 fo fe
 refine J.out.mono ?_
 rintro e y4 ⟨⟨ht', hk⟩, vk, rfl, hr⟩
 rw [← V4.out] at hr
 obtain ⟨Ak, nk, ck, rfl, hnk⟩ := own_sl3 hr
 obtain ⟨B4, HB4v⟩ : ∃ B, Hid (B = w3.heap.size) := ⟨_, rfl⟩
 rw [← HB4v.out] at hr
 have HB4 : Hid (w.heap.size + 1 + 1 + 1 ≤ B4) := by rw [Hid, HB4v.out]; exact HSZ.out
 have QK := Lib.hid hr
 rw [← hnk] at QK
 have HNK := Lib.hid hnk
 clear hr hnk
 have xr := XR.out.kp hk (by omega)
 have xo := XO.out.kp hk (by omega)
 have xe := XE.out.kp hk (by omega)
 have fo := xo.frozen
 have fe := xe.frozen
 obtain ⟨k0, k1, k2, k3, k4, k5, k6, k7, k8, k9⟩ := box10 xo
 have l0 := xe.cell (k := 0) rfl
 have l1 := xe.cell (k := 1) rfl
 have l2 := xe.cell (k := 2) rfl
 have l3 := xe.cell (k := 3) rfl
 have l4 := xe.cell (k := 4) rfl
 have hst : Tp.Kp (fun b => b = w.heap.size + 1 ∨ b = w.heap.size + 1 + 1) y4 (y4.setCell ⟨w.heap.size + 1, 2, none⟩ (.slice Ak nk ck)) := ((Tp.Kp.refl (fun b => b = w.heap.size + 1 ∨ b = w.heap.size + 1 + 1) y4).setCell (p := ⟨w.heap.size + 1, 2, none⟩) (fun _ => .inl rfl) _)
 have hkk : Tp.Kp (fun b => b = g ∨ b = w.heap.size + 1 ∨ b = w.heap.size + 1 + 1) w3 (y4.setCell ⟨w.heap.size + 1, 2, none⟩ (.slice Ak nk ck)) := (hk.more fun b _ e => .inl e).andThen hst fun b _ e => .inr e
 have XR := Lib.hid (xr.kp hst (by omega))
 have XO : Hid (BoxAt (y4.setCell ⟨w.heap.size + 1, 2, none⟩ (.slice Ak nk ck)) (w.heap.size + 1) #[.int .i64 zk, .slice AL nL cL, .slice Ak nk ck, .int .i64 0, .slice none 0 0, .slice none 0 0, .int .i64 0, .slice none 0 0, .int .i64 0, .slice none 0 0] 29) := (xo.setL 2 (.slice Ak nk ck))
 have XE : Hid (BoxAt (y4.setCell ⟨w.heap.size + 1, 2, none⟩ (.slice Ak nk ck)) (w.heap.size + 1 + 1) #[.int .i64 zP, .int .i64 zL, .int .i64 0, .int .i64 0, .int .i64 0] 171) := (xe.far (a := ⟨w.heap.size + 1, 2, none⟩) (by simp only; omega) (.slice Ak nk ck))
 have T := Lib.hid (ht'.kp hst (by omega) (fun j hj => by have := HKL.out j hj; omega))
 have K := Lib.hid (K.out.andThen hkk fun b _ e => by omega)
 have HSZ : Hid (w.heap.size + 1 + 1 + 1 ≤ (y4.setCell ⟨w.heap.size + 1, 2, none⟩ (.slice Ak nk ck)).heap.size) := Nat.le_trans HSZ.out hkk.size
 have QP : Hid (s1.2 = true → SlV (y4.setCell ⟨w.heap.size + 1, 2, none⟩ (.slice Ak nk ck)) (fun b => b < w.heap.size + 1 + 1 + 1) (.slice AP nP cP) pv.length (Pa.zCellsOf pv)) := fun h => (QP.out h).kp hkk (fun b _ e => HF0.out b e) (fun _ _ h => h)
 have QL : Hid (okL s2 → SlV (y4.setCell ⟨w.heap.size + 1, 2, none⟩ (.slice Ak nk ck)) (fun b => b < w.heap.size + 1 + 1 + 1 ∨ (Value.slice Ak nk ck).ownBlock = some b) (.slice AL nL cL) lb.length (entCells lb)) := fun h => (QL.out h).kp hkk (fun b _ e => HF0.out b e) (fun b hb e => e.elim id fun e => absurd (own_block QK.out e).1 (by rw [HB4v.out]; omega))
 have QK : Hid ((y4.setCell ⟨w.heap.size + 1, 2, none⟩ (.slice Ak nk ck)).ownsRow B4 85 3 (.slice Ak nk ck) nk (kidCells ks)) := own_kp QK.out hst fun j hj e => by have := (own_block QK.out hj).1; have := HB4.out; have := HF0.out j (.inr e); omega
 obtain ⟨w4, hx4⟩ : ∃ W, W = (y4.setCell ⟨w.heap.size + 1, 2, none⟩ (.slice Ak nk ck)) := ⟨_, rfl⟩
 rw [← hx4] at XR XO XE T K HSZ QP QL QK
 clear xr xo xe hst hkk hk ht'
 have J := tapeS_num (most := 1048577) T.out M4.out.1 M4.out.2
 rw [← V5.out, ← W5.out] at J
 have J := Lib.hid J
 go_wp2_with fail
 rw [← hx4]
 clear hx4 k0 k1 k2 k3 k4 k5 k6 k7 k8 k9 l0 l1 l2 l3 l4 fo fe
 refine J.out.mono ?_
 rintro e y5 ⟨rfl, ht', hk⟩
 have xr := XR.out.kp hk (by omega)
 have xo := XO.out.kp hk (by omega)
 have xe := XE.out.kp hk (by omega)
 have fo := xo.frozen
 have fe := xe.frozen
 obtain ⟨k0, k1, k2, k3, k4, k5, k6, k7, k8, k9⟩ := box10 xo
 have l0 := xe.cell (k := 0) rfl
 have l1 := xe.cell (k := 1) rfl
 have l2 := xe.cell (k := 2) rfl
 have l3 := xe.cell (k := 3) rfl
 have l4 := xe.cell (k := 4) rfl
 have hst : Tp.Kp (fun b => b = w.heap.size + 1 ∨ b = w.heap.size + 1 + 1) y5 (y5.setCell ⟨w.heap.size + 1, 3, none⟩ (.int .i64 nx)) := ((Tp.Kp.refl (fun b => b = w.heap.size + 1 ∨ b = w.heap.size + 1 + 1) y5).setCell (p := ⟨w.heap.size + 1, 3, none⟩) (fun _ => .inl rfl) _)
 have hkk : Tp.Kp (fun b => b = g ∨ b = w.heap.size + 1 ∨ b = w.heap.size + 1 + 1) w4 (y5.setCell ⟨w.heap.size + 1, 3, none⟩ (.int .i64 nx)) := (hk.more fun b _ e => .inl e).andThen hst fun b _ e => .inr e
 have XR := Lib.hid (xr.kp hst (by omega))
 have XO : Hid (BoxAt (y5.setCell ⟨w.heap.size + 1, 3, none⟩ (.int .i64 nx)) (w.heap.size + 1) #[.int .i64 zk, .slice AL nL cL, .slice Ak nk ck, .int .i64 nx, .slice none 0 0, .slice none 0 0, .int .i64 0, .slice none 0 0, .int .i64 0, .slice none 0 0] 29) := (xo.setL 3 (.int .i64 nx))
 have XE : Hid (BoxAt (y5.setCell ⟨w.heap.size + 1, 3, none⟩ (.int .i64 nx)) (w.heap.size + 1 + 1) #[.int .i64 zP, .int .i64 zL, .int .i64 0, .int .i64 0, .int .i64 0] 171) := (xe.far (a := ⟨w.heap.size + 1, 3, none⟩) (by simp only; omega) (.int .i64 nx))
 have T := Lib.hid (ht'.kp hst (by omega) (fun j hj => by have := HKL.out j hj; omega))
 have K := Lib.hid (K.out.andThen hkk fun b _ e => by omega)
 have HSZ : Hid (w.heap.size + 1 + 1 + 1 ≤ (y5.setCell ⟨w.heap.size + 1, 3, none⟩ (.int .i64 nx)).heap.size) := Nat.le_trans HSZ.out hkk.size
 have QP : Hid (s1.2 = true → SlV (y5.setCell ⟨w.heap.size + 1, 3, none⟩ (.int .i64 nx)) (fun b => b < w.heap.size + 1 + 1 + 1) (.slice AP nP cP) pv.length (Pa.zCellsOf pv)) := fun h => (QP.out h).kp hkk (fun b _ e => HF0.out b e) (fun _ _ h => h)
 have QL : Hid (okL s2 → SlV (y5.setCell ⟨w.heap.size + 1, 3, none⟩ (.int .i64 nx)) (fun b => b < w.heap.size + 1 + 1 + 1 ∨ (Value.slice Ak nk ck).ownBlock = some b) (.slice AL nL cL) lb.length (entCells lb)) := fun h => (QL.out h).kp hkk (fun b _ e => .inl (HF0.out b e)) (fun _ _ h => h)
 have QK : Hid ((y5.setCell ⟨w.heap.size + 1, 3, none⟩ (.int .i64 nx)).ownsRow B4 85 3 (.slice Ak nk ck) nk (kidCells ks)) := own_kp QK.out hkk fun j hj e => by have := (own_block QK.out hj).1; have := HB4.out; have := HF0.out j e; omega
 obtain ⟨w5, hx5⟩ : ∃ W, W = (y5.setCell ⟨w.heap.size + 1, 3, none⟩ (.int .i64 nx)) := ⟨_, rfl⟩
 rw [← hx5] at XR XO XE T K HSZ QP QL QK
 clear xr xo xe hst hkk hk ht'
 have J := tapeS_txt (most := 256) T.out M5.out.1 M5.out.2
 rw [← W6.out] at J
 have J := Lib.hid J
 go_wp2_with fail
 rw [← hx5]
 clear hx5 k0 k1 k2 k3 k4 k5 k6 k7 k8 k9 l0 l1 l2 l3 l4 fo fe
 refine J.out.mono ?_
 rintro e y0 ⟨rfl, ht', hk⟩
 rw [← V6.out]
 obtain ⟨cb, y6, hcv, hcb, hcs⟩ := conv_bytes y0 bs
 obtain ⟨B6, hB6⟩ : ∃ B, B = y0.heap.size := ⟨_, rfl⟩
 obtain ⟨nb, hnb⟩ : ∃ n, n = bs.length := ⟨_, rfl⟩
 have hsz6 : w5.heap.size ≤ y0.heap.size := hk.size
 have QB : Hid (s6.2 = true → SlV y6 (fun b => b < w.heap.size + 1 + 1 + 1 ∨ (Value.slice Ak nk ck).ownBlock = some b) (.slice (some ⟨y0.heap.size, 0, none⟩) bs.length cb) bs.length (Tp.cellsOf bs)) := fun h6 => (hcs (by rw [V6.out]; exact ((tS_reads (most := 256) (by omega)).sound s5 M5.out.1 (by rw [← W6.out]; exact h6)).2.2.2)).on (Below.refl _ _) fun b _ hb => hb.elim (fun hb => Nat.lt_of_lt_of_le hb (Nat.le_trans HSZ.out hsz6)) fun hb => Nat.lt_of_lt_of_le (own_block QK.out hb).2.1 hsz6
 rw [← hB6, ← hnb] at QB hcv
 replace hk := hk.andThen (Tp.Kp.of_below hcb (fun b => b = g)) fun _ _ h => h
 replace ht' := ht'.on hcb
 have HNB := Lib.hid hnb
 clear hcs hcb hB6 hsz6 hnb
 have xr := XR.out.kp hk (by omega)
 have xo := XO.out.kp hk (by omega)
 have xe := XE.out.kp hk (by omega)
 have fo := xo.frozen
 have fe := xe.frozen
 obtain ⟨k0, k1, k2, k3, k4, k5, k6, k7, k8, k9⟩ := box10 xo
 have l0 := xe.cell (k := 0) rfl
 have l1 := xe.cell (k := 1) rfl
 have l2 := xe.cell (k := 2) rfl
 have l3 := xe.cell (k := 3) rfl
 have l4 := xe.cell (k := 4) rfl
 have hst : Tp.Kp (fun b => b = w.heap.size + 1 ∨ b = w.heap.size + 1 + 1) y6 (y6.setCell ⟨w.heap.size + 1, 4, none⟩ (.slice (some ⟨B6, 0, none⟩) nb cb)) := ((Tp.Kp.refl (fun b => b = w.heap.size + 1 ∨ b = w.heap.size + 1 + 1) y6).setCell (p := ⟨w.heap.size + 1, 4, none⟩) (fun _ => .inl rfl) _)
 have hkk : Tp.Kp (fun b => b = g ∨ b = w.heap.size + 1 ∨ b = w.heap.size + 1 + 1) w5 (y6.setCell ⟨w.heap.size + 1, 4, none⟩ (.slice (some ⟨B6, 0, none⟩) nb cb)) := (hk.more fun b _ e => .inl e).andThen hst fun b _ e => .inr e
 have XR := Lib.hid (xr.kp hst (by omega))
 have XO : Hid (BoxAt (y6.setCell ⟨w.heap.size + 1, 4, none⟩ (.slice (some ⟨B6, 0, none⟩) nb cb)) (w.heap.size + 1) #[.int .i64 zk, .slice AL nL cL, .slice Ak nk ck, .int .i64 nx, .slice (some ⟨B6, 0, none⟩) nb cb, .slice none 0 0, .int .i64 0, .slice none 0 0, .int .i64 0, .slice none 0 0] 29) := (xo.setL 4 (.slice (some ⟨B6, 0, none⟩) nb cb))
 have XE : Hid (BoxAt (y6.setCell ⟨w.heap.size + 1, 4, none⟩ (.slice (some ⟨B6, 0, none⟩) nb cb)) (w.heap.size + 1 + 1) #[.int .i64 zP, .int .i64 zL, .int .i64 0, .int .i64 0, .int .i64 0] 171) := (xe.far (a := ⟨w.heap.size + 1, 4, none⟩) (by simp only; omega) (.slice (some ⟨B6, 0, none⟩) nb cb))
 have T := Lib.hid (ht'.kp hst (by omega) (fun j hj => by have := HKL.out j hj; omega))
 have K := Lib.hid (K.out.andThen hkk fun b _ e => by omega)
 have HSZ : Hid (w.heap.size + 1 + 1 + 1 ≤ (y6.setCell ⟨w.heap.size + 1, 4, none⟩ (.slice (some ⟨B6, 0, none⟩) nb cb)).heap.size) := Nat.le_trans HSZ.out hkk.size
 have QP : Hid (s1.2 = true → SlV (y6.setCell ⟨w.heap.size + 1, 4, none⟩ (.slice (some ⟨B6, 0, none⟩) nb cb)) (fun b => b < w.heap.size + 1 + 1 + 1) (.slice AP nP cP) pv.length (Pa.zCellsOf pv)) := fun h => (QP.out h).kp hkk (fun b _ e => HF0.out b e) (fun _ _ h => h)
 have QL : Hid (okL s2 → SlV (y6.setCell ⟨w.heap.size + 1, 4, none⟩ (.slice (some ⟨B6, 0, none⟩) nb cb)) (fun b => b < w.heap.size + 1 + 1 + 1 ∨ (Value.slice Ak nk ck).ownBlock = some b) (.slice AL nL cL) lb.length (entCells lb)) := fun h => (QL.out h).kp hkk (fun b _ e => .inl (HF0.out b e)) (fun _ _ h => h)
 have QK : Hid ((y6.setCell ⟨w.heap.size + 1, 4, none⟩ (.slice (some ⟨B6, 0, none⟩) nb cb)).ownsRow B4 85 3 (.slice Ak nk ck) nk (kidCells ks)) := own_kp QK.out hkk fun j hj e => by have := (own_block QK.out hj).1; have := HB4.out; have := HF0.out j e; omega
 have QB : Hid (s6.2 = true → SlV (y6.setCell ⟨w.heap.size + 1, 4, none⟩ (.slice (some ⟨B6, 0, none⟩) nb cb)) (fun b => b < w.heap.size + 1 + 1 + 1 ∨ (Value.slice Ak nk ck).ownBlock = some b) (.slice (some ⟨B6, 0, none⟩) nb cb) nb (Tp.cellsOf bs)) := fun h => (QB.out h).kp hst (fun b _ e => .inl (HF0.out b (.inr e))) (fun _ _ h => h)
 obtain ⟨w6, hx6⟩ : ∃ W, W = (y6.setCell ⟨w.heap.size + 1, 4, none⟩ (.slice (some ⟨B6, 0, none⟩) nb cb)) := ⟨_, rfl⟩
 rw [← hx6] at XR XO XE T K HSZ QP QL QK QB
 clear xr xo xe hst hkk hk ht'
 have J := ownsGet_any (HE.out.below (K.out.below HE.out.1 (fun j hj => by rw [hj]; exact hg8)) (Nat.le_refl _)) hg8 T.out M6.out.1 M6.out.2
 rw [← W7.out] at J
 have J := Lib.hid J
 go_wp2_with fail
 rw [← hx6]
 clear hx6 k0 k1 k2 k3 k4 k5 k6 k7 k8 k9 l0 l1 l2 l3 l4 fo fe
 refine J.out.mono ?_
 rintro e y7 ⟨⟨ht', hk⟩, hr⟩
 rw [← V7.out] at hr
 obtain ⟨AO, nO, cO, zO, rfl, HO, QO⟩ : ∃ A n c z, e = .returned (.tuple #[.slice A n c, .int .i64 z]) ∧ Hid ((okO s6) ↔ z = 0) ∧ Hid ((okO s6) → SlV y7 (fun b => b < w.heap.size + 1 + 1 + 1 ∨ (Value.slice Ak nk ck).ownBlock = some b) (.slice A n c) ow.length (strCellsOf ow)) := by
   rcases hr with ⟨h1, v, rfl, h2⟩ | ⟨h1, rfl⟩
   · obtain ⟨A, c, rfl⟩ := StrRow.slice h2
     exact ⟨A, _, c, 0, rfl, ⟨fun _ => rfl, fun _ => h1⟩, fun _ => (slv_row (base := w6.heap.size) h2).on (Below.refl _ _) fun b _ hb => hb.elim (fun hb => Nat.lt_of_lt_of_le hb HSZ.out) fun hb => (own_block QK.out hb).2.1⟩
   · exact ⟨none, 0, 0, 10, rfl, ⟨fun h => absurd h h1, fun h => by cases h⟩, fun h => absurd h h1⟩
 clear hr
 have xr := XR.out.kp hk (by omega)
 have xo := XO.out.kp hk (by omega)
 have xe := XE.out.kp hk (by omega)
 have fo := xo.frozen
 have fe := xe.frozen
 obtain ⟨k0, k1, k2, k3, k4, k5, k6, k7, k8, k9⟩ := box10 xo
 have l0 := xe.cell (k := 0) rfl
 have l1 := xe.cell (k := 1) rfl
 have l2 := xe.cell (k := 2) rfl
 have l3 := xe.cell (k := 3) rfl
 have l4 := xe.cell (k := 4) rfl
 have hst : Tp.Kp (fun b => b = w.heap.size + 1 ∨ b = w.heap.size + 1 + 1) y7 ((y7.setCell ⟨w.heap.size + 1, 5, none⟩ (.slice AO nO cO)).setCell ⟨w.heap.size + 1 + 1, 2, none⟩ (.int .i64 zO)) := (((Tp.Kp.refl (fun b => b = w.heap.size + 1 ∨ b = w.heap.size + 1 + 1) y7).setCell (p := ⟨w.heap.size + 1, 5, none⟩) (fun _ => .inl rfl) _).setCell (p := ⟨w.heap.size + 1 + 1, 2, none⟩) (fun _ => .inr rfl) _)
 have hkk : Tp.Kp (fun b => b = g ∨ b = w.heap.size + 1 ∨ b = w.heap.size + 1 + 1) w6 ((y7.setCell ⟨w.heap.size + 1, 5, none⟩ (.slice AO nO cO)).setCell ⟨w.heap.size + 1 + 1, 2, none⟩ (.int .i64 zO)) := (hk.more fun b _ e => .inl e).andThen hst fun b _ e => .inr e
 have XR := Lib.hid (xr.kp hst (by omega))
 have XO : Hid (BoxAt ((y7.setCell ⟨w.heap.size + 1, 5, none⟩ (.slice AO nO cO)).setCell ⟨w.heap.size + 1 + 1, 2, none⟩ (.int .i64 zO)) (w.heap.size + 1) #[.int .i64 zk, .slice AL nL cL, .slice Ak nk ck, .int .i64 nx, .slice (some ⟨B6, 0, none⟩) nb cb, .slice AO nO cO, .int .i64 0, .slice none 0 0, .int .i64 0, .slice none 0 0] 29) := ((xo.setL 5 (.slice AO nO cO)).far (a := ⟨w.heap.size + 1 + 1, 2, none⟩) (by simp only; omega) (.int .i64 zO))
 have XE : Hid (BoxAt ((y7.setCell ⟨w.heap.size + 1, 5, none⟩ (.slice AO nO cO)).setCell ⟨w.heap.size + 1 + 1, 2, none⟩ (.int .i64 zO)) (w.heap.size + 1 + 1) #[.int .i64 zP, .int .i64 zL, .int .i64 zO, .int .i64 0, .int .i64 0] 171) := ((xe.far (a := ⟨w.heap.size + 1, 5, none⟩) (by simp only; omega) (.slice AO nO cO)).setL 2 (.int .i64 zO))
 have T := Lib.hid (ht'.kp hst (by omega) (fun j hj => by have := HKL.out j hj; omega))
 have K := Lib.hid (K.out.andThen hkk fun b _ e => by omega)
 have HSZ : Hid (w.heap.size + 1 + 1 + 1 ≤ ((y7.setCell ⟨w.heap.size + 1, 5, none⟩ (.slice AO nO cO)).setCell ⟨w.heap.size + 1 + 1, 2, none⟩ (.int .i64 zO)).heap.size) := Nat.le_trans HSZ.out hkk.size
 have QP : Hid (s1.2 = true → SlV ((y7.setCell ⟨w.heap.size + 1, 5, none⟩ (.slice AO nO cO)).setCell ⟨w.heap.size + 1 + 1, 2, none⟩ (.int .i64 zO)) (fun b => b < w.heap.size + 1 + 1 + 1) (.slice AP nP cP) pv.length (Pa.zCellsOf pv)) := fun h => (QP.out h).kp hkk (fun b _ e => HF0.out b e) (fun _ _ h => h)
 have QL : Hid (okL s2 → SlV ((y7.setCell ⟨w.heap.size + 1, 5, none⟩ (.slice AO nO cO)).setCell ⟨w.heap.size + 1 + 1, 2, none⟩ (.int .i64 zO)) (fun b => b < w.heap.size + 1 + 1 + 1 ∨ (Value.slice Ak nk ck).ownBlock = some b) (.slice AL nL cL) lb.length (entCells lb)) := fun h => (QL.out h).kp hkk (fun b _ e => .inl (HF0.out b e)) (fun _ _ h => h)
 have QK : Hid (((y7.setCell ⟨w.heap.size + 1, 5, none⟩ (.slice AO nO cO)).setCell ⟨w.heap.size + 1 + 1, 2, none⟩ (.int .i64 zO)).ownsRow B4 85 3 (.slice Ak nk ck) nk (kidCells ks)) := own_kp QK.out hkk fun j hj e => by have := (own_block QK.out hj).1; have := HB4.out; have := HF0.out j e; omega
 have QB : Hid (s6.2 = true → SlV ((y7.setCell ⟨w.heap.size + 1, 5, none⟩ (.slice AO nO cO)).setCell ⟨w.heap.size + 1 + 1, 2, none⟩ (.int .i64 zO)) (fun b => b < w.heap.size + 1 + 1 + 1 ∨ (Value.slice Ak nk ck).ownBlock = some b) (.slice (some ⟨B6, 0, none⟩) nb cb) nb (Tp.cellsOf bs)) := fun h => (QB.out h).kp hkk (fun b _ e => .inl (HF0.out b e)) (fun _ _ h => h)
 have QO : Hid (okO s6 → SlV ((y7.setCell ⟨w.heap.size + 1, 5, none⟩ (.slice AO nO cO)).setCell ⟨w.heap.size + 1 + 1, 2, none⟩ (.int .i64 zO)) (fun b => b < w.heap.size + 1 + 1 + 1 ∨ (Value.slice Ak nk ck).ownBlock = some b) (.slice AO nO cO) ow.length (strCellsOf ow)) := fun h => (QO.out h).kp hst (fun b _ e => .inl (HF0.out b (.inr e))) (fun _ _ h => h)
 obtain ⟨w7, hx7⟩ : ∃ W, W = ((y7.setCell ⟨w.heap.size + 1, 5, none⟩ (.slice AO nO cO)).setCell ⟨w.heap.size + 1 + 1, 2, none⟩ (.int .i64 zO)) := ⟨_, rfl⟩
 rw [← hx7] at XR XO XE T K HSZ QP QL QK QB QO
 clear xr xo xe hst hkk hk ht'
 have J := tapeS_num (most := 65536) T.out M7.out.1 M7.out.2
 rw [← V8.out, ← W8.out] at J
 have J := Lib.hid J
 go_wp2_with fail
 rw [← hx7]
 clear hx7 k0 k1 k2 k3 k4 k5 k6 k7 k8 k9 l0 l1 l2 l3 l4 fo fe
 refine J.out.mono ?_
 rintro e y8 ⟨rfl, ht', hk⟩
 have xr := XR.out.kp hk (by omega)
 have xo := XO.out.kp hk (by omega)
 have xe := XE.out.kp hk (by omega)
 have fo := xo.frozen
 have fe := xe.frozen
 obtain ⟨k0, k1, k2, k3, k4, k5, k6, k7, k8, k9⟩ := box10 xo
 have l0 := xe.cell (k := 0) rfl
 have l1 := xe.cell (k := 1) rfl
 have l2 := xe.cell (k := 2) rfl
 have l3 := xe.cell (k := 3) rfl
 have l4 := xe.cell (k := 4) rfl
 have hst : Tp.Kp (fun b => b = w.heap.size + 1 ∨ b = w.heap.size + 1 + 1) y8 (y8.setCell ⟨w.heap.size + 1, 6, none⟩ (.int .i64 ca)) := ((Tp.Kp.refl (fun b => b = w.heap.size + 1 ∨ b = w.heap.size + 1 + 1) y8).setCell (p := ⟨w.heap.size + 1, 6, none⟩) (fun _ => .inl rfl) _)
 have hkk : Tp.Kp (fun b => b = g ∨ b = w.heap.size + 1 ∨ b = w.heap.size + 1 + 1) w7 (y8.setCell ⟨w.heap.size + 1, 6, none⟩ (.int .i64 ca)) := (hk.more fun b _ e => .inl e).andThen hst fun b _ e => .inr e
 have XR := Lib.hid (xr.kp hst (by omega))
 have XO : Hid (BoxAt (y8.setCell ⟨w.heap.size + 1, 6, none⟩ (.int .i64 ca)) (w.heap.size + 1) #[.int .i64 zk, .slice AL nL cL, .slice Ak nk ck, .int .i64 nx, .slice (some ⟨B6, 0, none⟩) nb cb, .slice AO nO cO, .int .i64 ca, .slice none 0 0, .int .i64 0, .slice none 0 0] 29) := (xo.setL 6 (.int .i64 ca))
 have XE : Hid (BoxAt (y8.setCell ⟨w.heap.size + 1, 6, none⟩ (.int .i64 ca)) (w.heap.size + 1 + 1) #[.int .i64 zP, .int .i64 zL, .int .i64 zO, .int .i64 0, .int .i64 0] 171) := (xe.far (a := ⟨w.heap.size + 1, 6, none⟩) (by simp only; omega) (.int .i64 ca))
 have T := Lib.hid (ht'.kp hst (by omega) (fun j hj => by have := HKL.out j hj; omega))
 have K := Lib.hid (K.out.andThen hkk fun b _ e => by omega)
 have HSZ : Hid (w.heap.size + 1 + 1 + 1 ≤ (y8.setCell ⟨w.heap.size + 1, 6, none⟩ (.int .i64 ca)).heap.size) := Nat.le_trans HSZ.out hkk.size
 have QP : Hid (s1.2 = true → SlV (y8.setCell ⟨w.heap.size + 1, 6, none⟩ (.int .i64 ca)) (fun b => b < w.heap.size + 1 + 1 + 1) (.slice AP nP cP) pv.length (Pa.zCellsOf pv)) := fun h => (QP.out h).kp hkk (fun b _ e => HF0.out b e) (fun _ _ h => h)
 have QL : Hid (okL s2 → SlV (y8.setCell ⟨w.heap.size + 1, 6, none⟩ (.int .i64 ca)) (fun b => b < w.heap.size + 1 + 1 + 1 ∨ (Value.slice Ak nk ck).ownBlock = some b) (.slice AL nL cL) lb.length (entCells lb)) := fun h => (QL.out h).kp hkk (fun b _ e => .inl (HF0.out b e)) (fun _ _ h => h)
 have QK : Hid ((y8.setCell ⟨w.heap.size + 1, 6, none⟩ (.int .i64 ca)).ownsRow B4 85 3 (.slice Ak nk ck) nk (kidCells ks)) := own_kp QK.out hkk fun j hj e => by have := (own_block QK.out hj).1; have := HB4.out; have := HF0.out j e; omega
 have QB : Hid (s6.2 = true → SlV (y8.setCell ⟨w.heap.size + 1, 6, none⟩ (.int .i64 ca)) (fun b => b < w.heap.size + 1 + 1 + 1 ∨ (Value.slice Ak nk ck).ownBlock = some b) (.slice (some ⟨B6, 0, none⟩) nb cb) nb (Tp.cellsOf bs)) := fun h => (QB.out h).kp hkk (fun b _ e => .inl (HF0.out b e)) (fun _ _ h => h)
 have QO : Hid (okO s6 → SlV (y8.setCell ⟨w.heap.size + 1, 6, none⟩ (.int .i64 ca)) (fun b => b < w.heap.size + 1 + 1 + 1 ∨ (Value.slice Ak nk ck).ownBlock = some b) (.slice AO nO cO) ow.length (strCellsOf ow)) := fun h => (QO.out h).kp hkk (fun b _ e => .inl (HF0.out b e)) (fun _ _ h => h)
 obtain ⟨w8, hx8⟩ : ∃ W, W = (y8.setCell ⟨w.heap.size + 1, 6, none⟩ (.int .i64 ca)) := ⟨_, rfl⟩
 rw [← hx8] at XR XO XE T K HSZ QP QL QK QB QO
 clear xr xo xe hst hkk hk ht'
 have J := labelGet_any (HE.out.below (K.out.below HE.out.1 (fun j hj => by rw [hj]; exact hg8)) (Nat.le_refl _)) hg8 T.out M8.out.1 M8.out.2
 rw [← W9.out] at J
 have J := Lib.hid J
 go_wp2_with fail
 rw [← hx8]
 clear hx8 k0 k1 k2 k3 k4 k5 k6 k7 k8 k9 l0 l1 l2 l3 l4 fo fe
 refine J.out.mono ?_
 rintro e y9 ⟨⟨ht', hk⟩, hr⟩
 rw [← V9.out] at hr
 obtain ⟨AN, nN, cN, zN, rfl, HN, QN⟩ : ∃ A n c z, e = .returned (.tuple #[.slice A n c, .int .i64 z]) ∧ Hid ((okL s8) ↔ z = 0) ∧ Hid ((okL s8) → SlV y9 (fun b => b < w.heap.size + 1 + 1 + 1 ∨ (Value.slice Ak nk ck).ownBlock = some b) (.slice A n c) en.length (entCells en)) := by
   rcases hr with ⟨h1, v, rfl, h2⟩ | ⟨h1, rfl⟩
   · obtain ⟨A, c, rfl⟩ := own_sl h2
     exact ⟨A, _, c, 0, rfl, ⟨fun _ => rfl, fun _ => h1⟩, fun _ => (slv_row (base := w8.heap.size) h2).on (Below.refl _ _) fun b _ hb => hb.elim (fun hb => Nat.lt_of_lt_of_le hb HSZ.out) fun hb => (own_block QK.out hb).2.1⟩
   · exact ⟨none, 0, 0, 10, rfl, ⟨fun h => absurd h h1, fun h => by cases h⟩, fun h => absurd h h1⟩
 clear hr
 have xr := XR.out.kp hk (by omega)
 have xo := XO.out.kp hk (by omega)
 have xe := XE.out.kp hk (by omega)
 have fo := xo.frozen
 have fe := xe.frozen
 obtain ⟨k0, k1, k2, k3, k4, k5, k6, k7, k8, k9⟩ := box10 xo
 have l0 := xe.cell (k := 0) rfl
 have l1 := xe.cell (k := 1) rfl
 have l2 := xe.cell (k := 2) rfl
 have l3 := xe.cell (k := 3) rfl
 have l4 := xe.cell (k := 4) rfl
 have hst : Tp.Kp (fun b => b = w.heap.size + 1 ∨ b = w.heap.size + 1 + 1) y9 ((y9.setCell ⟨w.heap.size + 1, 7, none⟩ (.slice AN nN cN)).setCell ⟨w.heap.size + 1 + 1, 3, none⟩ (.int .i64 zN)) := (((Tp.Kp.refl (fun b => b = w.heap.size + 1 ∨ b = w.heap.size + 1 + 1) y9).setCell (p := ⟨w.heap.size + 1, 7, none⟩) (fun _ => .inl rfl) _).setCell (p := ⟨w.heap.size + 1 + 1, 3, none⟩) (fun _ => .inr rfl) _)
 have hkk : Tp.Kp (fun b => b = g ∨ b = w.heap.size + 1 ∨ b = w.heap.size + 1 + 1) w8 ((y9.setCell ⟨w.heap.size + 1, 7, none⟩ (.slice AN nN cN)).setCell ⟨w.heap.size + 1 + 1, 3, none⟩ (.int .i64 zN)) := (hk.more fun b _ e => .inl e).andThen hst fun b _ e => .inr e
 have XR := Lib.hid (xr.kp hst (by omega))
 have XO : Hid (BoxAt ((y9.setCell ⟨w.heap.size + 1, 7, none⟩ (.slice AN nN cN)).setCell ⟨w.heap.size + 1 + 1, 3, none⟩ (.int .i64 zN)) (w.heap.size + 1) #[.int .i64 zk, .slice AL nL cL, .slice Ak nk ck, .int .i64 nx, .slice (some ⟨B6, 0, none⟩) nb cb, .slice AO nO cO, .int .i64 ca, .slice AN nN cN, .int .i64 0, .slice none 0 0] 29) := ((xo.setL 7 (.slice AN nN cN)).far (a := ⟨w.heap.size + 1 + 1, 3, none⟩) (by simp only; omega) (.int .i64 zN))
 have XE : Hid (BoxAt ((y9.setCell ⟨w.heap.size + 1, 7, none⟩ (.slice AN nN cN)).setCell ⟨w.heap.size + 1 + 1, 3, none⟩ (.int .i64 zN)) (w.heap.size + 1 + 1) #[.int .i64 zP, .int .i64 zL, .int .i64 zO, .int .i64 zN, .int .i64 0] 171) := ((xe.far (a := ⟨w.heap.size + 1, 7, none⟩) (by simp only; omega) (.slice AN nN cN)).setL 3 (.int .i64 zN))
 have T := Lib.hid (ht'.kp hst (by omega) (fun j hj => by have := HKL.out j hj; omega))
 have K := Lib.hid (K.out.andThen hkk fun b _ e => by omega)
 have HSZ : Hid (w.heap.size + 1 + 1 + 1 ≤ ((y9.setCell ⟨w.heap.size + 1, 7, none⟩ (.slice AN nN cN)).setCell ⟨w.heap.size + 1 + 1, 3, none⟩ (.int .i64 zN)).heap.size) := Nat.le_trans HSZ.out hkk.size
 have QP : Hid (s1.2 = true → SlV ((y9.setCell ⟨w.heap.size + 1, 7, none⟩ (.slice AN nN cN)).setCell ⟨w.heap.size + 1 + 1, 3, none⟩ (.int .i64 zN)) (fun b => b < w.heap.size + 1 + 1 + 1) (.slice AP nP cP) pv.length (Pa.zCellsOf pv)) := fun h => (QP.out h).kp hkk (fun b _ e => HF0.out b e) (fun _ _ h => h)
 have QL : Hid (okL s2 → SlV ((y9.setCell ⟨w.heap.size + 1, 7, none⟩ (.slice AN nN cN)).setCell ⟨w.heap.size + 1 + 1, 3, none⟩ (.int .i64 zN)) (fun b => b < w.heap.size + 1 + 1 + 1 ∨ (Value.slice Ak nk ck).ownBlock = some b) (.slice AL nL cL) lb.length (entCells lb)) := fun h => (QL.out h).kp hkk (fun b _ e => .inl (HF0.out b e)) (fun _ _ h => h)
 have QK : Hid (((y9.setCell ⟨w.heap.size + 1, 7, none⟩ (.slice AN nN cN)).setCell ⟨w.heap.size + 1 + 1, 3, none⟩ (.int .i64 zN)).ownsRow B4 85 3 (.slice Ak nk ck) nk (kidCells ks)) := own_kp QK.out hkk fun j hj e => by have := (own_block QK.out hj).1; have := HB4.out; have := HF0.out j e; omega
 have QB : Hid (s6.2 = true → SlV ((y9.setCell ⟨w.heap.size + 1, 7, none⟩ (.slice AN nN cN)).setCell ⟨w.heap.size + 1 + 1, 3, none⟩ (.int .i64 zN)) (fun b => b < w.heap.size + 1 + 1 + 1 ∨ (Value.slice Ak nk ck).ownBlock = some b) (.slice (some ⟨B6, 0, none⟩) nb cb) nb (Tp.cellsOf bs)) := fun h => (QB.out h).kp hkk (fun b _ e => .inl (HF0.out b e)) (fun _ _ h => h)
 have QO : Hid (okO s6 → SlV ((y9.setCell ⟨w.heap.size + 1, 7, none⟩ (.slice AN nN cN)).setCell ⟨w.heap.size + 1 + 1, 3, none⟩ (.int .i64 zN)) (fun b => b < w.heap.size + 1 + 1 + 1 ∨ (Value.slice Ak nk ck).ownBlock = some b) (.slice AO nO cO) ow.length (strCellsOf ow)) := fun h => (QO.out h).kp hkk (fun b _ e => .inl (HF0.out b e)) (fun _ _ h => h)
 have QN : Hid (okL s8 → SlV ((y9.setCell ⟨w.heap.size + 1, 7, none⟩ (.slice AN nN cN)).setCell ⟨w.heap.size + 1 + 1, 3, none⟩ (.int .i64 zN)) (fun b => b < w.heap.size + 1 + 1 + 1 ∨ (Value.slice Ak nk ck).ownBlock = some b) (.slice AN nN cN) en.length (entCells en)) := fun h => (QN.out h).kp hst (fun b _ e => .inl (HF0.out b (.inr e))) (fun _ _ h => h)
 obtain ⟨w9, hx9⟩ : ∃ W, W = ((y9.setCell ⟨w.heap.size + 1, 7, none⟩ (.slice AN nN cN)).setCell ⟨w.heap.size + 1 + 1, 3, none⟩ (.int .i64 zN)) := ⟨_, rfl⟩
 rw [← hx9] at XR XO XE T K HSZ QP QL QK QB QO QN
 clear xr xo xe hst hkk hk ht'
 have J := tapeS_num (most := 1048576) T.out M9.out.1 M9.out.2
 rw [← V10.out, ← W10.out] at J
 have J := Lib.hid J
 go_wp2_with fail
 rw [← hx9]
 clear hx9 k0 k1 k2 k3 k4 k5 k6 k7 k8 k9 l0 l1 l2 l3 l4 fo fe
 refine J.out.mono ?_
 rintro e y10 ⟨rfl, ht', hk⟩
 have xr := XR.out.kp hk (by omega)
 have xo := XO.out.kp hk (by omega)
 have xe := XE.out.kp hk (by omega)
 have fo := xo.frozen
 have fe := xe.frozen
 obtain ⟨k0, k1, k2, k3, k4, k5, k6, k7, k8, k9⟩ := box10 xo
 have l0 := xe.cell (k := 0) rfl
 have l1 := xe.cell (k := 1) rfl
 have l2 := xe.cell (k := 2) rfl
 have l3 := xe.cell (k := 3) rfl
 have l4 := xe.cell (k := 4) rfl
 have hst : Tp.Kp (fun b => b = w.heap.size + 1 ∨ b = w.heap.size + 1 + 1) y10 (y10.setCell ⟨w.heap.size + 1, 8, none⟩ (.int .i64 ri)) := ((Tp.Kp.refl (fun b => b = w.heap.size + 1 ∨ b = w.heap.size + 1 + 1) y10).setCell (p := ⟨w.heap.size + 1, 8, none⟩) (fun _ => .inl rfl) _)
 have hkk : Tp.Kp (fun b => b = g ∨ b = w.heap.size + 1 ∨ b = w.heap.size + 1 + 1) w9 (y10.setCell ⟨w.heap.size + 1, 8, none⟩ (.int .i64 ri)) := (hk.more fun b _ e => .inl e).andThen hst fun b _ e => .inr e
 have XR := Lib.hid (xr.kp hst (by omega))
 have XO : Hid (BoxAt (y10.setCell ⟨w.heap.size + 1, 8, none⟩ (.int .i64 ri)) (w.heap.size + 1) #[.int .i64 zk, .slice AL nL cL, .slice Ak nk ck, .int .i64 nx, .slice (some ⟨B6, 0, none⟩) nb cb, .slice AO nO cO, .int .i64 ca, .slice AN nN cN, .int .i64 ri, .slice none 0 0] 29) := (xo.setL 8 (.int .i64 ri))
 have XE : Hid (BoxAt (y10.setCell ⟨w.heap.size + 1, 8, none⟩ (.int .i64 ri)) (w.heap.size + 1 + 1) #[.int .i64 zP, .int .i64 zL, .int .i64 zO, .int .i64 zN, .int .i64 0] 171) := (xe.far (a := ⟨w.heap.size + 1, 8, none⟩) (by simp only; omega) (.int .i64 ri))
 have T := Lib.hid (ht'.kp hst (by omega) (fun j hj => by have := HKL.out j hj; omega))
 have K := Lib.hid (K.out.andThen hkk fun b _ e => by omega)
 have HSZ : Hid (w.heap.size + 1 + 1 + 1 ≤ (y10.setCell ⟨w.heap.size + 1, 8, none⟩ (.int .i64 ri)).heap.size) := Nat.le_trans HSZ.out hkk.size
 have QP : Hid (s1.2 = true → SlV (y10.setCell ⟨w.heap.size + 1, 8, none⟩ (.int .i64 ri)) (fun b => b < w.heap.size + 1 + 1 + 1) (.slice AP nP cP) pv.length (Pa.zCellsOf pv)) := fun h => (QP.out h).kp hkk (fun b _ e => HF0.out b e) (fun _ _ h => h)
 have QL : Hid (okL s2 → SlV (y10.setCell ⟨w.heap.size + 1, 8, none⟩ (.int .i64 ri)) (fun b => b < w.heap.size + 1 + 1 + 1 ∨ (Value.slice Ak nk ck).ownBlock = some b) (.slice AL nL cL) lb.length (entCells lb)) := fun h => (QL.out h).kp hkk (fun b _ e => .inl (HF0.out b e)) (fun _ _ h => h)
 have QK : Hid ((y10.setCell ⟨w.heap.size + 1, 8, none⟩ (.int .i64 ri)).ownsRow B4 85 3 (.slice Ak nk ck) nk (kidCells ks)) := own_kp QK.out hkk fun j hj e => by have := (own_block QK.out hj).1; have := HB4.out; have := HF0.out j e; omega
 have QB : Hid (s6.2 = true → SlV (y10.setCell ⟨w.heap.size + 1, 8, none⟩ (.int .i64 ri)) (fun b => b < w.heap.size + 1 + 1 + 1 ∨ (Value.slice Ak nk ck).ownBlock = some b) (.slice (some ⟨B6, 0, none⟩) nb cb) nb (Tp.cellsOf bs)) := fun h => (QB.out h).kp hkk (fun b _ e => .inl (HF0.out b e)) (fun _ _ h => h)
 have QO : Hid (okO s6 → SlV (y10.setCell ⟨w.heap.size + 1, 8, none⟩ (.int .i64 ri)) (fun b => b < w.heap.size + 1 + 1 + 1 ∨ (Value.slice Ak nk ck).ownBlock = some b) (.slice AO nO cO) ow.length (strCellsOf ow)) := fun h => (QO.out h).kp hkk (fun b _ e => .inl (HF0.out b e)) (fun _ _ h => h)
 have QN : Hid (okL s8 → SlV (y10.setCell ⟨w.heap.size + 1, 8, none⟩ (.int .i64 ri)) (fun b => b < w.heap.size + 1 + 1 + 1 ∨ (Value.slice Ak nk ck).ownBlock = some b) (.slice AN nN cN) en.length (entCells en)) := fun h => (QN.out h).kp hkk (fun b _ e => .inl (HF0.out b e)) (fun _ _ h => h)
 obtain ⟨w10, hx10⟩ : ∃ W, W = (y10.setCell ⟨w.heap.size + 1, 8, none⟩ (.int .i64 ri)) := ⟨_, rfl⟩
 rw [← hx10] at XR XO XE T K HSZ QP QL QK QB QO QN
 clear xr xo xe hst hkk hk ht'
 have J := getMaps_any T.out M10.out.1 M10.out.2
 rw [← W11.out] at J
 have J := Lib.hid J
 go_wp2_with fail
 rw [← hx10]
 clear hx10 k0 k1 k2 k3 k4 k5 k6 k7 k8 k9 l0 l1 l2 l3 l4 fo fe
 refine J.out.mono ?_
 rintro e y11 ⟨⟨ht', hk⟩, hr⟩
 obtain ⟨AM, nM, cM, zM, rfl, HM, QM⟩ : ∃ A n c z, e = .returned (.tuple #[.slice A n c, .int .i64 z]) ∧ Hid (s11.2 = true → z = 0) ∧ Hid (s11.2 = true → MapsV y11 (fun b => b < w.heap.size + 1 + 1 + 1 ∨ (Value.slice Ak nk ck).ownBlock = some b) (.slice A n c) ms) := by
   rw [RetMaps, ← V11.out, ← W11.out] at hr
   rcases hr with ⟨v, rfl, h2⟩ | ⟨h1, rfl⟩
   · have h3 := h2.maps
     have h4 := h3
     obtain ⟨A, c, rfl, -⟩ := h4
     exact ⟨A, _, c, 0, rfl, fun _ => rfl, fun _ => h3.on (Below.refl _ _) fun b _ hb => hb.elim (fun hb => Nat.lt_of_lt_of_le hb HSZ.out) fun hb => (own_block QK.out hb).2.1⟩
   · exact ⟨none, 0, 0, 10, rfl, fun h => absurd h (by rw [h1]; decide), fun h => absurd h (by rw [h1]; decide)⟩
 clear hr
 have xr := XR.out.kp hk (by omega)
 have xo := XO.out.kp hk (by omega)
 have xe := XE.out.kp hk (by omega)
 have fo := xo.frozen
 have fe := xe.frozen
 obtain ⟨k0, k1, k2, k3, k4, k5, k6, k7, k8, k9⟩ := box10 xo
 have l0 := xe.cell (k := 0) rfl
 have l1 := xe.cell (k := 1) rfl
 have l2 := xe.cell (k := 2) rfl
 have l3 := xe.cell (k := 3) rfl
 have l4 := xe.cell (k := 4) rfl
 have hst : Tp.Kp (fun b => b = w.heap.size + 1 ∨ b = w.heap.size + 1 + 1) y11 ((y11.setCell ⟨w.heap.size + 1, 9, none⟩ (.slice AM nM cM)).setCell ⟨w.heap.size + 1 + 1, 4, none⟩ (.int .i64 zM)) := (((Tp.Kp.refl (fun b => b = w.heap.size + 1 ∨ b = w.heap.size + 1 + 1) y11).setCell (p := ⟨w.heap.size + 1, 9, none⟩) (fun _ => .inl rfl) _).setCell (p := ⟨w.heap.size + 1 + 1, 4, none⟩) (fun _ => .inr rfl) _)
 have hkk : Tp.Kp (fun b => b = g ∨ b = w.heap.size + 1 ∨ b = w.heap.size + 1 + 1) w10 ((y11.setCell ⟨w.heap.size + 1, 9, none⟩ (.slice AM nM cM)).setCell ⟨w.heap.size + 1 + 1, 4, none⟩ (.int .i64 zM)) := (hk.more fun b _ e => .inl e).andThen hst fun b _ e => .inr e
 have XR := Lib.hid (xr.kp hst (by omega))
 have XO : Hid (BoxAt ((y11.setCell ⟨w.heap.size + 1, 9, none⟩ (.slice AM nM cM)).setCell ⟨w.heap.size + 1 + 1, 4, none⟩ (.int .i64 zM)) (w.heap.size + 1) #[.int .i64 zk, .slice AL nL cL, .slice Ak nk ck, .int .i64 nx, .slice (some ⟨B6, 0, none⟩) nb cb, .slice AO nO cO, .int .i64 ca, .slice AN nN cN, .int .i64 ri, .slice AM nM cM] 29) := ((xo.setL 9 (.slice AM nM cM)).far (a := ⟨w.heap.size + 1 + 1, 4, none⟩) (by simp only; omega) (.int .i64 zM))
 have XE : Hid (BoxAt ((y11.setCell ⟨w.heap.size + 1, 9, none⟩ (.slice AM nM cM)).setCell ⟨w.heap.size + 1 + 1, 4, none⟩ (.int .i64 zM)) (w.heap.size + 1 + 1) #[.int .i64 zP, .int .i64 zL, .int .i64 zO, .int .i64 zN, .int .i64 zM] 171) := ((xe.far (a := ⟨w.heap.size + 1, 9, none⟩) (by simp only; omega) (.slice AM nM cM)).setL 4 (.int .i64 zM))
 have T := Lib.hid (ht'.kp hst (by omega) (fun j hj => by have := HKL.out j hj; omega))
 have K := Lib.hid (K.out.andThen hkk fun b _ e => by omega)
 have HSZ : Hid (w.heap.size + 1 + 1 + 1 ≤ ((y11.setCell ⟨w.heap.size + 1, 9, none⟩ (.slice AM nM cM)).setCell ⟨w.heap.size + 1 + 1, 4, none⟩ (.int .i64 zM)).heap.size) := Nat.le_trans HSZ.out hkk.size
 have QP : Hid (s1.2 = true → SlV ((y11.setCell ⟨w.heap.size + 1, 9, none⟩ (.slice AM nM cM)).setCell ⟨w.heap.size + 1 + 1, 4, none⟩ (.int .i64 zM)) (fun b => b < w.heap.size + 1 + 1 + 1) (.slice AP nP cP) pv.length (Pa.zCellsOf pv)) := fun h => (QP.out h).kp hkk (fun b _ e => HF0.out b e) (fun _ _ h => h)
 have QL : Hid (okL s2 → SlV ((y11.setCell ⟨w.heap.size + 1, 9, none⟩ (.slice AM nM cM)).setCell ⟨w.heap.size + 1 + 1, 4, none⟩ (.int .i64 zM)) (fun b => b < w.heap.size + 1 + 1 + 1 ∨ (Value.slice Ak nk ck).ownBlock = some b) (.slice AL nL cL) lb.length (entCells lb)) := fun h => (QL.out h).kp hkk (fun b _ e => .inl (HF0.out b e)) (fun _ _ h => h)
 have QK : Hid (((y11.setCell ⟨w.heap.size + 1, 9, none⟩ (.slice AM nM cM)).setCell ⟨w.heap.size + 1 + 1, 4, none⟩ (.int .i64 zM)).ownsRow B4 85 3 (.slice Ak nk ck) nk (kidCells ks)) := own_kp QK.out hkk fun j hj e => by have := (own_block QK.out hj).1; have := HB4.out; have := HF0.out j e; omega
 have QB : Hid (s6.2 = true → SlV ((y11.setCell ⟨w.heap.size + 1, 9, none⟩ (.slice AM nM cM)).setCell ⟨w.heap.size + 1 + 1, 4, none⟩ (.int .i64 zM)) (fun b => b < w.heap.size + 1 + 1 + 1 ∨ (Value.slice Ak nk ck).ownBlock = some b) (.slice (some ⟨B6, 0, none⟩) nb cb) nb (Tp.cellsOf bs)) := fun h => (QB.out h).kp hkk (fun b _ e => .inl (HF0.out b e)) (fun _ _ h => h)
 have QO : Hid (okO s6 → SlV ((y11.setCell ⟨w.heap.size + 1, 9, none⟩ (.slice AM nM cM)).setCell ⟨w.heap.size + 1 + 1, 4, none⟩ (.int .i64 zM)) (fun b => b < w.heap.size + 1 + 1 + 1 ∨ (Value.slice Ak nk ck).ownBlock = some b) (.slice AO nO cO) ow.length (strCellsOf ow)) := fun h => (QO.out h).kp hkk (fun b _ e => .inl (HF0.out b e)) (fun _ _ h => h)
 have QN : Hid (okL s8 → SlV ((y11.setCell ⟨w.heap.size + 1, 9, none⟩ (.slice AM nM cM)).setCell ⟨w.heap.size + 1 + 1, 4, none⟩ (.int .i64 zM)) (fun b => b < w.heap.size + 1 + 1 + 1 ∨ (Value.slice Ak nk ck).ownBlock = some b) (.slice AN nN cN) en.length (entCells en)) := fun h => (QN.out h).kp hkk (fun b _ e => .inl (HF0.out b e)) (fun _ _ h => h)
 have QM : Hid (s11.2 = true → MapsV ((y11.setCell ⟨w.heap.size + 1, 9, none⟩ (.slice AM nM cM)).setCell ⟨w.heap.size + 1 + 1, 4, none⟩ (.int .i64 zM)) (fun b => b < w.heap.size + 1 + 1 + 1 ∨ (Value.slice Ak nk ck).ownBlock = some b) (.slice AM nM cM) ms) := fun h => (QM.out h).kp hst (fun b _ e => .inl (HF0.out b (.inr e))) (fun _ _ h => h)
 obtain ⟨w11, hx11⟩ : ∃ W, W = ((y11.setCell ⟨w.heap.size + 1, 9, none⟩ (.slice AM nM cM)).setCell ⟨w.heap.size + 1 + 1, 4, none⟩ (.int .i64 zM)) := ⟨_, rfl⟩
 rw [← hx11] at XR XO XE T K HSZ QP QL QK QB QO QN QM
 clear xr xo xe hst hkk hk ht'
 have HU : Hid (s11.2 = true → s10.2 = true ∧ s9.2 = true ∧ s8.2 = true ∧ s7.2 = true ∧ s6.2 = true ∧ s5.2 = true ∧ s4.2 = true ∧ s3.2 = true ∧ s2.2 = true ∧ s1.2 = true) := fun h => by
   have h10 := U11.out h
   have h9 := U10.out h10
   have h8 := U9.out h9
   have h7 := U8.out h8
   have h6 := U7.out h7
   have h5 := U6.out h6
   have h4 := U5.out h5
   have h3 := U4.out h4
   have h2 := U3.out h3
   exact ⟨h10, h9, h8, h7, h6, h5, h4, h3, h2, U2.out h2⟩
 have OL : Hid (okL s2 ↔ s3.2 = true ∧ RightL lb) := by rw [Hid, okL, ← W3.out, ← V3.out]
 have ON : Hid (okL s8 ↔ s9.2 = true ∧ RightL en) := by rw [Hid, okL, ← W9.out, ← V9.out]
 have OO : Hid (okO s6 ↔ s7.2 = true ∧ OwnL ow) := by rw [Hid, okO, ← W7.out, ← V7.out]
 have GI : Hid (goodI s ↔ s11.2 = true ∧ RightL lb ∧ OwnL ow ∧ RightL en) := by rw [Hid, goodI, HIT.out]
 obtain ⟨b, hb⟩ : ∃ b : Bool, b = (zP == 0 && (zL == 0 && (zO == 0 && (zN == 0 && zM == 0)))) := ⟨_, rfl⟩
 have DEC : Hid (decide (goodI s) = (b && s11.2)) := by
   have hz : goodI s ↔ (zP = 0 ∧ zL = 0 ∧ zO = 0 ∧ zN = 0 ∧ zM = 0) ∧ s11.2 = true := by
     rw [GI.out]
     constructor
     · rintro ⟨h, h1, h2, h3⟩
       obtain ⟨-, h9, -, h7, -, -, -, hh3, -, hh1⟩ := HU.out h
       exact ⟨⟨HP.out.1 hh1, HL.out.1 (OL.out.2 ⟨hh3, h1⟩), HO.out.1 (OO.out.2 ⟨h7, h2⟩), HN.out.1 (ON.out.2 ⟨h9, h3⟩), HM.out h⟩, h⟩
     · rintro ⟨⟨-, h2, h3, h4, -⟩, h⟩
       exact ⟨h, (OL.out.1 (HL.out.2 h2)).2, (OO.out.1 (HO.out.2 h3)).2, (ON.out.1 (HN.out.2 h4)).2⟩
   rw [Hid, hb, Bool.eq_iff_iff, decide_eq_true_eq, hz]
   simp [and_assoc]
 have hEq : ∀ W, (binOp .eql 171 (.agg #[.int .i64 zP, .int .i64 zL, .int .i64 zO, .int .i64 zN, .int .i64 zM]) (.agg #[.int .i64 0, .int .i64 0, .int .i64 0, .int .i64 0, .int .i64 0])).run Tryz.prog W = .ok (.bool b) W := fun W => by rw [hb]; exact eq171 _ _ _ _ _ W
 have FIN : Hid (∀ W', Tp.Kp (fun b => b = w.heap.size) w11 W' → GotS w g k (itemS s).2 W' ∧ RetItem w s (.returned (.tuple #[.slice AP nP cP, .agg #[.int .i64 zk, .slice AL nL cL, .slice Ak nk ck, .int .i64 nx, .slice (some ⟨B6, 0, none⟩) nb cb, .slice AO nO cO, .int .i64 ca, .slice AN nN cN, .int .i64 ri, .slice AM nM cM], .bool (decide (goodI s))])) W') := fun W' hk => by
   refine ⟨by rw [HIT.out]; exact ⟨T.out.kp hk (by omega) (fun j hj => by have := HKL.out j hj; omega), K.out.andThen hk fun b _ e => by omega⟩, _, _, rfl, ⟨_, _, _, _, _, _, _, _, _, _, _, _, _, _, _, _, _, _, _, _, _, _, rfl⟩, ⟨_, _, _, rfl⟩, fun hg => ?_⟩
   obtain ⟨h, h1, h2, h3⟩ := GI.out.1 hg
   obtain ⟨-, h9, -, h7, h6, -, -, hh3, -, hh1⟩ := HU.out h
   rw [HIT.out]
   have hS : ∀ b, b < w11.heap.size → b = w.heap.size → b < w.heap.size + 1 + 1 + 1 ∨ (Value.slice Ak nk ck).ownBlock = some b := fun b _ e => .inl (by omega)
   have hF : ∀ b, b < w11.heap.size → (b < w.heap.size ∨ (Value.slice Ak nk ck).ownBlock = some b) → b < w.heap.size + 1 + 1 + 1 ∨ (Value.slice Ak nk ck).ownBlock = some b := fun b _ e => e.elim (fun e => .inl (by omega)) .inr
   refine ⟨(QP.out hh1).kp hk (fun b _ e => by show b < _; omega) (fun b _ e => by show b < _; have : b < w.heap.size := e; omega), .slice Ak nk ck, ?_, _, _, _, _, _, rfl, (QL.out (OL.out.2 ⟨hh3, h1⟩)).kp hk hS hF, ?_, (QO.out (OO.out.2 ⟨h7, h2⟩)).kp hk hS hF, (QN.out (ON.out.2 ⟨h9, h3⟩)).kp hk hS hF, (QM.out h).kp hk hS hF⟩
   · have h5 := own_kp QK.out hk fun j hj e => by have := (own_block QK.out hj).1; have := HB4.out; omega
     rw [HNK.out] at h5 ⊢
     exact own_base h5 (by have := HB4.out; omega)
   · have h5 := (QB.out h6).kp hk hS hF
     rw [HNB.out] at h5 ⊢
     exact h5
 go_wp2_with fail
 have t11 := T.out
 have xr := XR.out
 have xo := XO.out
 have xe := XE.out
 have fr := xr.frozen
 rw [← hx11]
 clear hx11 k0 k1 k2 k3 k4 k5 k6 k7 k8 k9 l0 l1 l2 l3 l4 fo fe
 obtain ⟨k0, k1, k2, k3, k4, k5, k6, k7, k8, k9⟩ := box10 xo
 have l0 := xe.cell (k := 0) rfl
 have l1 := xe.cell (k := 1) rfl
 have l2 := xe.cell (k := 2) rfl
 have l3 := xe.cell (k := 3) rfl
 have l4 := xe.cell (k := 4) rfl
 have kd : Tp.Kp (fun b => b = w.heap.size) w11 w11.drew := Tp.Kp.of_below (Below.refl _ _).drew _
 have kp : Tp.Kp (fun b => b = w.heap.size) w11 ((((((((((w11.setCell ⟨w.heap.size, 0, none⟩ (.int .i64 zk)).setCell ⟨w.heap.size, 1, none⟩ (.slice AL nL cL)).setCell ⟨w.heap.size, 2, none⟩ (.slice Ak nk ck)).setCell ⟨w.heap.size, 3, none⟩ (.int .i64 nx)).setCell ⟨w.heap.size, 4, none⟩ (.slice (some ⟨B6, 0, none⟩) nb cb)).setCell ⟨w.heap.size, 5, none⟩ (.slice AO nO cO)).setCell ⟨w.heap.size, 6, none⟩ (.int .i64 ca)).setCell ⟨w.heap.size, 7, none⟩ (.slice AN nN cN)).setCell ⟨w.heap.size, 8, none⟩ (.int .i64 ri)).setCell ⟨w.heap.size, 9, none⟩ (.slice AM nM cM)).drew := ((((((((((((Tp.Kp.refl (fun b => b = w.heap.size) w11).setCell (p := ⟨w.heap.size, 0, none⟩) (fun _ => rfl) _).setCell (p := ⟨w.heap.size, 1, none⟩) (fun _ => rfl) _).setCell (p := ⟨w.heap.size, 2, none⟩) (fun _ => rfl) _).setCell (p := ⟨w.heap.size, 3, none⟩) (fun _ => rfl) _).setCell (p := ⟨w.heap.size, 4, none⟩) (fun _ => rfl) _).setCell (p := ⟨w.heap.size, 5, none⟩) (fun _ => rfl) _).setCell (p := ⟨w.heap.size, 6, none⟩) (fun _ => rfl) _).setCell (p := ⟨w.heap.size, 7, none⟩) (fun _ => rfl) _).setCell (p := ⟨w.heap.size, 8, none⟩) (fun _ => rfl) _).setCell (p := ⟨w.heap.size, 9, none⟩) (fun _ => rfl) _).andThen (Tp.Kp.of_below (Below.refl _ _).drew _) fun _ _ h => h)
 have xod := xo.drew
 have xed := xe.drew
 have J1 := tapeS_errs (t11.kp kd (by omega) (fun j hj => by have := HKL.out j hj; omega))
 have bf : BoxAt ((((((((((w11.setCell ⟨w.heap.size, 0, none⟩ (.int .i64 zk)).setCell ⟨w.heap.size, 1, none⟩ (.slice AL nL cL)).setCell ⟨w.heap.size, 2, none⟩ (.slice Ak nk ck)).setCell ⟨w.heap.size, 3, none⟩ (.int .i64 nx)).setCell ⟨w.heap.size, 4, none⟩ (.slice (some ⟨B6, 0, none⟩) nb cb)).setCell ⟨w.heap.size, 5, none⟩ (.slice AO nO cO)).setCell ⟨w.heap.size, 6, none⟩ (.int .i64 ca)).setCell ⟨w.heap.size, 7, none⟩ (.slice AN nN cN)).setCell ⟨w.heap.size, 8, none⟩ (.int .i64 ri)).setCell ⟨w.heap.size, 9, none⟩ (.slice AM nM cM)).drew (w.heap.size) #[.int .i64 zk, .slice AL nL cL, .slice Ak nk ck, .int .i64 nx, .slice (some ⟨B6, 0, none⟩) nb cb, .slice AO nO cO, .int .i64 ca, .slice AN nN cN, .int .i64 ri, .slice AM nM cM] 29 := ((((((((((xr.setL 0 (.int .i64 zk)).setL 1 (.slice AL nL cL)).setL 2 (.slice Ak nk ck)).setL 3 (.int .i64 nx)).setL 4 (.slice (some ⟨B6, 0, none⟩) nb cb)).setL 5 (.slice AO nO cO)).setL 6 (.int .i64 ca)).setL 7 (.slice AN nN cN)).setL 8 (.int .i64 ri)).setL 9 (.slice AM nM cM)).drew
 obtain ⟨wf, hwf⟩ : ∃ W, W = ((((((((((w11.setCell ⟨w.heap.size, 0, none⟩ (.int .i64 zk)).setCell ⟨w.heap.size, 1, none⟩ (.slice AL nL cL)).setCell ⟨w.heap.size, 2, none⟩ (.slice Ak nk ck)).setCell ⟨w.heap.size, 3, none⟩ (.int .i64 nx)).setCell ⟨w.heap.size, 4, none⟩ (.slice (some ⟨B6, 0, none⟩) nb cb)).setCell ⟨w.heap.size, 5, none⟩ (.slice AO nO cO)).setCell ⟨w.heap.size, 6, none⟩ (.int .i64 ca)).setCell ⟨w.heap.size, 7, none⟩ (.slice AN nN cN)).setCell ⟨w.heap.size, 8, none⟩ (.int .i64 ri)).setCell ⟨w.heap.size, 9, none⟩ (.slice AM nM cM)).drew := ⟨_, rfl⟩
 rw [← hwf] at kp bf
 have HWF := Lib.hid hwf
 have FINd := Lib.hid (FIN.out _ kp)
 have XF := Lib.hid bf
 have XRd := Lib.hid (xr.drew)
 have XRo := Lib.hid xr
 obtain ⟨ok, hok⟩ : ∃ x : Bool, x = s11.2 := ⟨_, rfl⟩
 rw [← hok] at J1 DEC
 have J1 := Lib.hid J1
 clear hb hok kd kp hwf bf t11 xr HU OL ON OO GI HIT FIN T K XR XO XE HE QP QL QK QB QO QN QM HP HL HO HN HM M1 U1 V1 W1 M2 U2 V2 W2 M3 U3 V3 W3 M4 U4 V4 W4 M5 U5 V5 W5 M6 U6 V6 W6 M7 U7 V7 W7 M8 U8 V8 W8 M9 U9 V9 W9 M10 U10 V10 W10 M11 U11 V11 W11 M0
 clear xod xed xo xe fr
 rw [DEC.out] at FINd
 cases b
 · obtain ⟨r0, r1, r2, r3, r4, r5, r6, r7, r8, r9⟩ := box10 XRd.out
   have frd := XRd.out.frozen
   obtain ⟨ra0, ra1, ra2, ra3, ra4, ra5, ra6, ra7, ra8, ra9⟩ := box10 XRo.out
   have fra := XRo.out.frozen
   first
     | (go_region_with (fail))
     | (go_region_with (fail))
   all_goals rw [← HWF.out]
   all_goals clear k0 k1 k2 k3 k4 k5 k6 k7 k8 k9 l0 l1 l2 l3 l4 r0 r1 r2 r3 r4 r5 r6 r7 r8 r9 frd ra0 ra1 ra2 ra3 ra4 ra5 ra6 ra7 ra8 ra9 fra
   all_goals obtain ⟨q0, q1, q2, q3, q4, q5, q6, q7, q8, q9⟩ := box10 XF.out
   all_goals go_wp2_with fail
   all_goals (try simp only [Exit.inBlock, Exit.then])
   all_goals refine bodyPost_ret (v := .tuple #[.slice AP nP cP, .agg #[.int .i64 zk, .slice AL nL cL, .slice Ak nk ck, .int .i64 nx, .slice (some ⟨B6, 0, none⟩) nb cb, .slice AO nO cO, .int .i64 ca, .slice AN nN cN, .int .i64 ri, .slice AM nM cM], .bool false]) ?_ rfl FINd.out
   all_goals rw [results_tct rfl]
   all_goals go_simp
 · cases ok
   · obtain ⟨T, x, J1⟩ := J1.out.2 rfl
     have J1 := Lib.hid J1
     obtain ⟨r0, r1, r2, r3, r4, r5, r6, r7, r8, r9⟩ := box10 XRd.out
     have frd := XRd.out.frozen
     obtain ⟨ra0, ra1, ra2, ra3, ra4, ra5, ra6, ra7, ra8, ra9⟩ := box10 XRo.out
     have fra := XRo.out.frozen
     first
       | (go_region_with (first | (go_at_call 126; refine J1.out.mono ?_; rintro e Y1 ⟨rfl, rfl⟩)))
       | (go_region_with (first | (go_at_call 126; refine J1.out.mono ?_; rintro e Y1 ⟨rfl, rfl⟩)))
     all_goals rw [← HWF.out]
     all_goals clear k0 k1 k2 k3 k4 k5 k6 k7 k8 k9 l0 l1 l2 l3 l4 r0 r1 r2 r3 r4 r5 r6 r7 r8 r9 frd ra0 ra1 ra2 ra3 ra4 ra5 ra6 ra7 ra8 ra9 fra
     all_goals obtain ⟨q0, q1, q2, q3, q4, q5, q6, q7, q8, q9⟩ := box10 XF.out
     all_goals go_wp2_with fail
     all_goals (try simp only [Exit.inBlock, Exit.then])
     all_goals refine bodyPost_ret (v := .tuple #[.slice AP nP cP, .agg #[.int .i64 zk, .slice AL nL cL, .slice Ak nk ck, .int .i64 nx, .slice (some ⟨B6, 0, none⟩) nb cb, .slice AO nO cO, .int .i64 ca, .slice AN nN cN, .int .i64 ri, .slice AM nM cM], .bool false]) ?_ rfl FINd.out
     all_goals rw [results_tct rfl]
     all_goals go_simp
   · have J1 := Lib.hid (J1.out.1 rfl)
     obtain ⟨r0, r1, r2, r3, r4, r5, r6, r7, r8, r9⟩ := box10 XRd.out
     have frd := XRd.out.frozen
     obtain ⟨ra0, ra1, ra2, ra3, ra4, ra5, ra6, ra7, ra8, ra9⟩ := box10 XRo.out
     have fra := XRo.out.frozen
     first
       | (go_region_with (first | (go_at_call 126; refine J1.out.mono ?_; rintro e Y1 ⟨rfl, rfl⟩)))
       | (go_region_with (first | (go_at_call 126; refine J1.out.mono ?_; rintro e Y1 ⟨rfl, rfl⟩)))
     all_goals rw [← HWF.out]
     all_goals clear k0 k1 k2 k3 k4 k5 k6 k7 k8 k9 l0 l1 l2 l3 l4 r0 r1 r2 r3 r4 r5 r6 r7 r8 r9 frd ra0 ra1 ra2 ra3 ra4 ra5 ra6 ra7 ra8 ra9 fra
     all_goals obtain ⟨q0, q1, q2, q3, q4, q5, q6, q7, q8, q9⟩ := box10 XF.out
     all_goals go_wp2_with fail
     all_goals (try simp only [Exit.inBlock, Exit.then])
     all_goals refine bodyPost_ret (v := .tuple #[.slice AP nP cP, .agg #[.int .i64 zk, .slice AL nL cL, .slice Ak nk ck, .int .i64 nx, .slice (some ⟨B6, 0, none⟩) nb cb, .slice AO nO cO, .int .i64 ca, .slice AN nN cN, .int .i64 ri, .slice AM nM cM], .bool true]) ?_ rfl FINd.out
     all_goals rw [results_tct rfl]
     all_goals go_simp
end Go.Proofs.YtgcbfggoddkhnaaGreatDoor
