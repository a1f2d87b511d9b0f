/- Lemmas for the law: Zj, Zk, Zn, Zs, Zt. -/
import Derived.Test.YtgcbfggoddkhnaaGreatDoorM18
import Derived.Test.YtgcbfggoddkhnaaGreatDoorM20
namespace Go.Proofs.YtgcbfggoddkhnaaGreatDoor
open Go.RowKit
def Blank (w : World) (k : Nat) : Prop := ∀ off, w.cell? ⟨k, off, none⟩ = none
theorem SlV.far {w w' : World} {F : Nat → Prop} {v : Value} {n : Nat} {cs : List Value} {k : Nat} (h : SlV w F v n cs) (hk0 : Blank w k) (hk : Tp.Kp (fun b => b = k) w w') : SlV w' F v n cs := by
 obtain ⟨A, c, h1, h2, h3, h4⟩ := h
 refine ⟨A, c, h1, h2, h3, fun hp => ?_⟩
 obtain ⟨b, o, hA, hb, hlt, hc⟩ := h4 hp
 have h0 := hc 0 _ (List.getElem?_eq_getElem hp)
 have hne : ¬ b = k := fun e => by rw [e, hk0] at h0; cases h0
 exact ⟨b, o, hA, hb, Nat.lt_of_lt_of_le hlt hk.size, fun k u hu => hk.cell (hc k u hu) hne⟩
theorem Blank.not_row {w : World} {k : Nat} (h : Blank w k) {base : Nat} {e : TypeId} {size : Nat} {v : Value} {n : Nat} {xs : List Value} (hr : w.ownsRow base e size v n xs) (hn : 0 < xs.length) : v.ownBlock ≠ some k := fun hb => by
 have := hr.cells (g := k) hb 0 _ (List.getElem?_eq_getElem hn)
 rw [Go.WideShapes.add_plain, h] at this
 cases this
theorem RngT.iter {w : World} {bm r n cnt : Nat} {T : TT} {V : List UInt8 → Value} {left : List UInt8 → Bool} (h : RngT w bm r n T V left cnt) : ∃ a b c d, w.heap[r]? = some (.mapIter a b c d) := by
 obtain ⟨D, lf, ⟨es, clock, since, seen, c0, _, _, _, _, hr, _⟩, _⟩ := h
 exact ⟨_, _, _, _, hr⟩
theorem RngT.blank {w : World} {bm r n cnt : Nat} {T : TT} {V : List UInt8 → Value} {left : List UInt8 → Bool} (h : RngT w bm r n T V left cnt) : Blank w r := fun off => by
 obtain ⟨_, _, _, _, hr⟩ := h.iter
 simp [World.cell?, hr]
theorem RngT.not_row {w : World} {bm r m cnt : Nat} {T : TT} {V : List UInt8 → Value} {left : List UInt8 → Bool} (h : RngT w bm r m T V left cnt) {base : Nat} {e : TypeId} {size : Nat} {v : Value} {n : Nat} {xs : List Value} (hr : w.ownsRow base e size v n xs) : v.ownBlock ≠ some r := fun hb => by
 obtain ⟨_, _, cur, hh⟩ := own_block hr hb
 obtain ⟨_, _, _, _, h2⟩ := h.iter
 rw [h2] at hh
 cases hh
theorem WkG.far {w w' : World} {base : Nat} {v : Value} {W : List (List Int)} {k : Nat} (h : WkG w base v W) (hk0 : Blank w k) (hv : ∀ cs, w.ownsRow base 43 1 v W.length cs → v.ownBlock ≠ some k) (hk : Tp.Kp (fun b => b = k) w w') : WkG w' base v W := by
 obtain ⟨cs, h1, h2⟩ := h
 refine ⟨cs, own_kp h1 hk fun b hb e => hv cs h1 (by rw [hb, e]), fun i x hx => ?_⟩
 obtain ⟨u, h3, h4⟩ := h2 i x hx
 exact ⟨u, h3, h4.far hk0 hk⟩
theorem kp_one {w w' : World} {r : Nat} (hg : w.grownBy w' (some r)) : Tp.Kp (fun b => b = r) w w' := (Tp.Kp.refl _ w).grown hg fun k e _ => by injection e with e; exact e.symm
def PtRel (w : World) (bm n C : Nat) (T : TT) (V : List UInt8 → Value) (v : Value) (wr : World) : Prop :=
 ∃ W left cnt, WkG wr w.heap.size v W ∧ W.Nodup ∧ W.length + cnt ≤ C ∧ (∀ s, left s = true ↔ ((T s).isSome = true ∧ ∀ q ∈ W, s ≠ Pa.zText q)) ∧ (∀ q ∈ W, (T (Pa.zText q)).isSome = true ∧ Pa.PathOk q) ∧ RngT wr bm w.heap.size n T V left cnt ∧ Below w.heap.size w wr
set_option maxRecDepth 100000 in
set_option maxHeartbeats 2000000 in
theorem paths_any {w : World} {t n : Nat} {T : TT} {L : Tab} (he : Env w) (ht : GivR w t n T) (hI : IsT T L) (hA : Asc L) (hok : ∀ x ∈ L, Pa.PathOk x.1) (hn : n ≤ 10000000000) :
  Calls Tryz.prog 29 #[.pointer (some ⟨t, 0, none⟩)] w fun e w' => Below w.heap.size w w' ∧ ∃ v, e = .returned v ∧ PthsAt w' w.heap.size v (L.map Prod.fst) := by
 obtain ⟨bm, V, hv0, hm, -⟩ := ht
 have hbl := hm.lt
 have HE := Lib.hid he
 have HI := Lib.hid hI
 have HA := Lib.hid hA
 have HOK := Lib.hid hok
 have HM := Lib.hid hm
 obtain ⟨i0, hi, hz0, hz1, hz2⟩ := info_parts Tryz.info43
 clear he hI hA hok hm
 go_enter Tryz.func29, Tryz.ntmps29
 go_wp2_with (first | (at_range; refine wpList_range_T rfl _ rfl rfl HM.out ?_; intro w0 C hr0 hb0) | go_in)
 go_frame
 have hC : C ≤ n := hr0.le
 have R0 := Lib.hid hr0
 have B0 := Lib.hid hb0
 clear hr0 hb0
 go_loopw [3] (fun v wr => PtRel w bm n C T V v wr) (fun _ wr => wr.rangeLeft bm w.heap.size)
 case atStart => exact ⟨[], fun s => (T s).isSome, C, WkG.nil _ _, List.nodup_nil, by simp, (fun s => by simp), (fun q hq => absurd hq (by simp)), R0.out, B0.out⟩
 case round =>
  obtain ⟨W, left, cnt, hw, hnd, hWc, hleft, hall, hrg, hb⟩ := hrel
  have HW := Lib.hid hw
  have HND := Lib.hid hnd
  have HLF := Lib.hid hleft
  have HALL := Lib.hid hall
  have HRG := Lib.hid hrg
  have HB := Lib.hid hb
  have hsz := hb.size
  have hWl : W.length ≤ 10000000000 := by omega
  obtain ⟨Aw, cw, rfl⟩ := hw.none
  clear hw hnd hleft hall hrg hb
  go_wp2_with (first | (at_next; refine wpList_next_T rfl _ rfl rfl HRG.out ?_ ?_))
  · intro hc0 hl0
    have H87 := Lib.hid (sortP_any HW.out HND.out (fun x hx => (HALL.out x hx).2) (by omega))
    have HL0 := Lib.hid hl0
    clear hl0
    go_wp2_with fail
    refine H87.out.mono ?_
    rintro e w2 ⟨rfl, ⟨R, hR, hRp, hRm⟩, hk2⟩
    have hmem : ∀ x, x ∈ W ↔ ∃ o, fnd L x = some o := fun x => by
     constructor
     · intro hx
       have := (HALL.out x hx).1
       rw [HI.out.at'] at this
       exact Option.isSome_iff_exists.1 this
     · rintro ⟨o, ho⟩
       by_cases hx : x ∈ W
       · exact hx
       · have h1 := HL0.out (Pa.zText x)
         have h2 := (HLF.out (Pa.zText x)).2 ⟨by rw [HI.out.at', ho]; rfl, fun q hq e => hx (by rw [zText_inj e]; exact hq)⟩
         rw [h1] at h2
         cases h2
    have hRL : R = L.map Prod.fst := asc_keys hRp (List.pairwise_map.2 HA.out) fun x => by
     rw [hRm, hmem, List.mem_map]
     constructor
     · rintro ⟨o, ho⟩
       exact ⟨(x, o), fnd_mem ho, rfl⟩
     · rintro ⟨y, hy, rfl⟩
       exact ⟨y.2, fnd_of HA.out hy⟩
    rw [hRL] at hR
    have HRR := Lib.hid hR
    have B2 : Hid (Below w.heap.size w w2) := by
     have h1 := hk2.below (B := w.heap.size) hsz fun k hk => by
       obtain ⟨cs, h1, _⟩ := HW.out
       exact (own_block h1 hk).1
     exact HB.out.trans h1
    clear hR hRp hRm hk2 hmem hRL H87
    go_wp2_with fail
    go_ret
    exact ⟨B2.out, _, rfl, HRR.out⟩
  · intro s ob w1 cnt1 hls hTs hrg1 hlt1 hg1 hs1 hen
    have hk1 := kp_one hg1
    obtain ⟨q, hq⟩ := HI.out.key s ob hTs
    have hqf : fnd L q = some ob := by rw [← HI.out.at', ← hq]; exact hTs
    have hqok : Pa.PathOk q := HOK.out _ (fnd_mem hqf)
    have hb1 : Below w.heap.size w w1 := HB.out.trans (hk1.below hsz fun k e => by rw [e]; exact Nat.le_refl _)
    have hsl : s.length ≤ 140737488351232 := by rw [hq]; have := Pa.zText_len hqok.wide; have := hqok.1; omega
    have H86 := Lib.hid (Pa.parse_any (HE.out.on hb1) hsl)
    have HW1 := Lib.hid (HW.out.far HRG.out.blank (fun cs h => HRG.out.not_row h) hk1)
    have HQ := Lib.hid hq
    have HQOK := Lib.hid hqok
    have HTS := Lib.hid hTs
    have HLS := Lib.hid hls
    have HR1 := Lib.hid hrg1
    have B1 := Lib.hid hb1
    have HMS : Hid (cnt = wr.rangeLeft bm w.heap.size) := HRG.out.lt.2.symm
    clear hk1 hq hqf hqok hTs hls hrg1 hg1 hb1
    go_wp2_with fail
    refine H86.out.mono ?_
    rintro e w2 ⟨hb2, ⟨zs, v2, hip, rfl, hr2⟩ | ⟨hno, rfl⟩⟩
    case inr => exact absurd ⟨HQOK.out, HQ.out⟩ (hno q)
    have ez : zs = q := hip.one ⟨HQOK.out, HQ.out⟩
    subst ez
    obtain ⟨A2, c2, rfl, hpl2⟩ := hr2.pl HQOK.out.wide
    have B2 := Lib.hid (B1.out.trans (hb2.mono B1.out.size))
    obtain ⟨cs, hown, hcs⟩ := HW1.out.on hb2
    have hr2' := HR1.out.on hb2
    have hal := (Below.refl w2.heap.size w2).alloc (Nat.le_refl _) (.cells #[.slice A2 zs.length c2] 43)
    have hq5 : SlV (w2.alloc (.cells #[.slice A2 zs.length c2] 43)) (fun b => (Value.slice Aw W.length cw).ownBlock = some b ∨ b < w.heap.size) (.slice A2 zs.length c2) zs.length (Pa.zCellsOf zs) :=
     (slv_row (show w2.ownsRow _ 3 1 _ _ _ from hr2)).on hal fun b _ hb => by
       rcases hb with hb | hb
       · obtain ⟨cs1, h1, _⟩ := HW1.out
         exact (own_block h1 hb).2.1
       · have := B1.out.size; omega
    have H5 := Lib.hid (own_on hown hal)
    have C5 : Hid (∀ (i : Nat) (y : List Int), W[i]? = some y → ∃ u, cs[i]? = some u ∧ SlV (w2.alloc (.cells #[.slice A2 zs.length c2] 43)) (fun b => (Value.slice Aw W.length cw).ownBlock = some b ∨ b < w.heap.size) u y.length (Pa.zCellsOf y)) := fun i y hy => by
     obtain ⟨u, h1, h2⟩ := hcs i y hy
     exact ⟨u, h1, h2.on hal fun _ _ h => h⟩
    have Q5 := Lib.hid hq5
    have R5 := Lib.hid (hr2'.on hal)
    have B5 := Lib.hid (B2.out.trans (hal.mono B2.out.size))
    have hbase : w.heap.size ≤ (w2.alloc (.cells #[.slice A2 zs.length c2] 43)).heap.size := B5.out.size
    have HGB : Hid (∀ b, (Value.slice Aw W.length cw).ownBlock = some b → w.heap.size ≤ b) := fun b hb => (own_block hown hb).1
    clear hb2 hr2 hpl2 hown hcs hr2' hal hq5 H86 hip
    go_wp2_with (first
     | (at_builtin; refine wpList_append_own_at _ rfl _ _ 66 rfl w.heap.size 43 i0 _ 1 24 Tryz.underlying66 hi hz0 hz1 hz2 rfl (by decide) _ W.length cs rfl H5.out ⟨w2.heap.size, 0, none⟩ 1 1 [.slice A2 zs.length c2] rfl rfl (cell_one_new _ _ _) (by simp [Value.oneCell']) (by unfold maxLen; omega) (by omega) hbase ?_))
    intro v' w6 hown6 hg6 _ hloc6
    have hsz5 : (w2.alloc (.cells #[.slice A2 zs.length c2] 43)).heap.size = w2.heap.size + 1 := by simp
    rw [← hsz5] at hloc6
    have HW6 := Lib.hid (WkG.snoc H5.out C5.out Q5.out hown6 hg6 hloc6)
    have B6 : Hid (Below w.heap.size w w6) := B5.out.grown hg6 B5.out.size HGB.out
    have HR6 := Lib.hid (R5.out.kept hg6 (fun e => by have := HGB.out _ e.symm; omega) (fun e => R5.out.not_row H5.out e.symm))
    have hms := HMS.out
    clear hown6 hg6 hloc6 hbase
    go_wp2_with fail
    go_roundw
    case rel =>
     refine ⟨W ++ [zs], _, cnt1, HW6.out, ?_, by simp; omega, fun x => ?_, fun y hy => ?_, HR6.out, B6.out⟩
     · rw [List.nodup_append]
       refine ⟨HND.out, by simp, fun a ha b hb e => ?_⟩
       simp at hb
       subst hb
       exact ((HLF.out s).1 HLS.out).2 a ha (by rw [HQ.out, e])
     · rw [Bool.and_eq_true, HLF.out]
       simp only [List.mem_append, List.mem_singleton, Bool.not_eq_true', decide_eq_false_iff_not]
       constructor
       · rintro ⟨⟨h1, h2⟩, h3⟩
         refine ⟨h1, fun y hy => ?_⟩
         rcases hy with hy | rfl
         · exact h2 y hy
         · rw [← HQ.out]; exact h3
       · rintro ⟨h1, h2⟩
         exact ⟨⟨h1, fun y hy => h2 y (.inl hy)⟩, by rw [HQ.out]; exact h2 zs (.inr rfl)⟩
     · rcases List.mem_append.1 hy with hy | hy
       · exact HALL.out y hy
       · simp at hy
         subst hy
         exact ⟨by rw [← HQ.out, HTS.out]; rfl, HQOK.out⟩
    case measure => rw [HR6.out.lt.2, ← hms]; exact hlt1
end Go.Proofs.YtgcbfggoddkhnaaGreatDoor
namespace Go.Proofs.YtgcbfggoddkhnaaGreatDoor
open Go.RowKit
theorem TabAt.emptyT {w : World} {t N : Nat} (hv : w.cell? ⟨t, 0, none⟩ = some (.map (some N))) (hm : MapV w N 0 (fun _ => none) fun _ => undef) : TabAt w (fun x => x = N) t 0 fun _ => none :=
 ⟨N, fun _ => undef, fun _ => undef, { var := hv, map := hm, wide := (fun s o h => by cases h), ob := (fun s o h => by cases h), row := (fun s o h => by cases h), isF := rfl, inF := (fun s o h => by cases h), ltF := (fun b hb => by subst hb; exact hm.lt), dist := (fun s s' o o' h => by cases h), notF := fun e => hm.ne hv e }⟩
theorem MapsV.far {w w' : World} {F : Nat → Prop} {v : Value} {ms : List Mp} {k : Nat} (h : MapsV w F v ms) (hk0 : Blank w k) (hk : Tp.Kp (fun b => b = k) w w') : MapsV w' F v ms := by
 obtain ⟨A, c, h1, h2, h3, h4⟩ := h
 refine ⟨A, c, h1, h2, h3, fun hp => ?_⟩
 obtain ⟨b, o, hA, hb, hlt, hc⟩ := h4 hp
 have hne : ¬ b = k := fun e => by
  have := (hc 0 _ (List.getElem?_eq_getElem hp)).1
  rw [e, hk0] at this
  cases this
 refine ⟨b, o, hA, hb, Nat.lt_of_lt_of_le hlt hk.size, fun i m hm => ?_⟩
 obtain ⟨c1, ⟨s, c2, hs⟩, c3⟩ := hc i m hm
 exact ⟨hk.cell c1 hne, ⟨s, hk.cell c2 hne, hs.far hk0 hk⟩, hk.cell c3 hne⟩
theorem ObjK.far {w w' : World} {F : Nat → Prop} {v vk : Value} {o : Ob} {k : Nat} (h : ObjK w F v vk o) (hk0 : Blank w k) (hk : Tp.Kp (fun b => b = k) w w') : ObjK w' F v vk o := by
 obtain ⟨vl, vb, vo, ve, vm, h1, h2, h3, h4, h5, h6⟩ := h
 exact ⟨vl, vb, vo, ve, vm, h1, h2.far hk0 hk, h3.far hk0 hk, h4.far hk0 hk, h5.far hk0 hk, h6.far hk0 hk⟩
theorem TabAt.far {w w' : World} {F : Nat → Prop} {t n k : Nat} {T : TT} (h : TabAt w F t n T) (hk0 : Blank w k) (hi : ∃ a b c d, w.heap[k]? = some (.mapIter a b c d)) (hk : Tp.Kp (fun b => b = k) w w') : TabAt w' F t n T := by
 obtain ⟨bm, V, K, h⟩ := h
 obtain ⟨a, b, c, d, hi⟩ := hi
 have hr : ∀ {base : Nat} {e : TypeId} {size : Nat} {v : Value} {n : Nat} {xs : List Value}, w.ownsRow base e size v n xs → v.ownBlock ≠ some k := fun hr hb => by
   obtain ⟨_, _, cur, hh⟩ := own_block hr hb
   rw [hi] at hh
   cases hh
 refine ⟨bm, V, K, { var := hk.cell h.var fun e => ?_, map := h.map.kp hk fun e => ?_, wide := h.wide, ob := fun s o ho => (h.ob s o ho).far hk0 hk, row := fun s o ho => own_kp (h.row s o ho) hk fun j hj e => hr (h.row s o ho) (by rw [hj, e]), isF := h.isF, inF := h.inF, ltF := fun b hb => Nat.lt_of_lt_of_le (h.ltF b hb) hk.size, dist := h.dist, notF := h.notF }⟩
 · have := h.var
   simp only at e
   rw [e, hk0] at this
   cases this
 · obtain ⟨D, ⟨es, clock, h1, _⟩, _⟩ := h.map
   rw [e, hi] at h1
   cases h1
theorem TabIs.set_ix {w W : World} {F : Nat → Prop} {t bm n : Nat} {T : TT} {V K : List UInt8 → Value} (h : TabIs w F t bm n T V K) (hn : n ≤ 100000000000) {s : List UInt8} (hs : s.length ≤ 100000000000) {v vk : Value} {o : Ob} (hw : WideO o) (hB : Below w.heap.size w W)
  (hob : ObjK W (fun x => x < w.heap.size ∨ vk.ownBlock = some x) v vk o) (hrow : W.ownsRow w.heap.size 85 3 vk o.kids.length (kidCells o.kids)) :
  TabIs (putW bm s v W) (fun x => F x ∨ vk.ownBlock = some x) t bm (n + 1) (updT T s o) (updV V s v) (updV K s vk) ∧ ∀ b, vk.ownBlock = some b → w.heap.size ≤ b := by
 have hnew : ∀ b, vk.ownBlock = some b → w.heap.size ≤ b := fun b hb => (own_block hrow hb).1
 obtain ⟨h1, h2⟩ := (h.on hB).put hn hs (v := v) (vk := vk) hw (hob.on (Below.refl _ _) fun b _ hb => hb.elim (fun hb => .inl (h.ltF b hb)) .inr) (own_base hrow (Nat.zero_le _))
  (fun b hb => .inl fun hF => by have := h.ltF b hF; have := hnew b hb; omega)
  (fun s' o' h' _ => (h.ob s' o' h').on hB fun b hb hF => hF.elim id fun hv => by have := hnew b hv; omega)
  (fun hb => by have := hnew t hb; have := h.tlt; omega)
 exact ⟨h1, hnew⟩
structure TabNw (w : World) (h : Nat) (F : Nat → Prop) (t bm n : Nat) (T : TT) (V K : List UInt8 → Value) : Prop where
 tab : TabIs w (fun x => F x ∨ x < h) t bm n T V K
 isF : F bm
 inF : ∀ s o, T s = some o → ∀ b, (K s).ownBlock = some b → F b
 own : ∀ b, F b → h ≤ b
 ht : h ≤ t
theorem TabIs.fit {w : World} {F F' : Nat → Prop} {t bm n : Nat} {T : TT} {V K : List UInt8 → Value} (h : TabIs w F t bm n T V K) (hF : ∀ b, F' b → F b) (h1 : F' bm) (h2 : ∀ s o, T s = some o → ∀ b, (K s).ownBlock = some b → F' b) : TabIs w F' t bm n T V K :=
 { var := h.var, map := h.map, wide := h.wide, ob := fun s o ho => (h.ob s o ho).on (Below.refl _ _) fun b _ hb => hF b hb, row := h.row, isF := h1, inF := h2, ltF := fun b hb => h.ltF b (hF b hb), dist := h.dist, notF := fun e => h.notF (hF _ e) }
theorem TabNw.at {w : World} {h : Nat} {F : Nat → Prop} {t bm n : Nat} {T : TT} {V K : List UInt8 → Value} (k : TabNw w h F t bm n T V K) : TabIs w F t bm n T V K := k.tab.fit (fun _ hb => .inl hb) k.isF k.inF
theorem TabNw.less {w : World} {h h' : Nat} {F : Nat → Prop} {t bm n : Nat} {T : TT} {V K : List UInt8 → Value} (k : TabNw w h F t bm n T V K) (hh : h' ≤ h) : TabNw w h' F t bm n T V K :=
 ⟨k.tab.fit (fun _ hb => hb.imp id fun hb => Nat.lt_of_lt_of_le hb hh) (.inl k.isF) fun s o ho b hb => .inl (k.inF s o ho b hb), k.isF, k.inF, fun b hb => Nat.le_trans hh (k.own b hb), Nat.le_trans hh k.ht⟩
theorem TabNw.kp {S : Nat → Prop} {w w' : World} {h : Nat} {F : Nat → Prop} {t bm n : Nat} {T : TT} {V K : List UInt8 → Value} (k : TabNw w h F t bm n T V K) (hk : Tp.Kp S w w') (hS : ∀ b, b < w.heap.size → S b → b < h) : TabNw w' h F t bm n T V K where
 tab :=
  { var := hk.cell k.tab.var fun e => by have := hS _ k.tab.tlt e; have := k.ht; simp at *; omega
    map := k.tab.map.kp hk fun e => by have := hS _ k.tab.map.lt e; have := k.own _ k.isF; omega
    wide := k.tab.wide
    ob := fun s o ho => (k.tab.ob s o ho).kp hk (fun b hb e => .inr (hS b hb e)) fun _ _ h => h
    row := fun s o ho => own_kp (k.tab.row s o ho) hk fun b hb e => by have := hS _ (own_block (k.tab.row s o ho) hb).2.1 e; have := k.own _ (k.inF s o ho b hb); omega
    isF := k.tab.isF
    inF := k.tab.inF
    ltF := fun b hb => Nat.lt_of_lt_of_le (k.tab.ltF b hb) hk.size
    dist := k.tab.dist
    notF := k.tab.notF }
 isF := k.isF
 inF := k.inF
 own := k.own
 ht := k.ht
theorem TabNw.more {w : World} {h : Nat} {F : Nat → Prop} {t bm n m : Nat} {T : TT} {V K : List UInt8 → Value} (k : TabNw w h F t bm n T V K) (hn : n ≤ m) : TabNw w h F t bm m T V K := { k with tab := k.tab.more hn }
def TabNew (w : World) (h : Nat) (F : Nat → Prop) (t n : Nat) (T : TT) : Prop := ∃ bm V K, TabNw w h F t bm n T V K
theorem TabNew.at {w : World} {h : Nat} {F : Nat → Prop} {t n : Nat} {T : TT} (k : TabNew w h F t n T) : TabAt w F t n T := by
 obtain ⟨bm, V, K, k⟩ := k
 exact ⟨bm, V, K, k.at⟩
theorem TabNew.less {w : World} {h h' : Nat} {F : Nat → Prop} {t n : Nat} {T : TT} (k : TabNew w h F t n T) (hh : h' ≤ h) : TabNew w h' F t n T := by
 obtain ⟨bm, V, K, k⟩ := k
 exact ⟨bm, V, K, k.less hh⟩
theorem TabNew.kp {S : Nat → Prop} {w w' : World} {h : Nat} {F : Nat → Prop} {t n : Nat} {T : TT} (k : TabNew w h F t n T) (hk : Tp.Kp S w w') (hS : ∀ b, b < w.heap.size → S b → b < h) : TabNew w' h F t n T := by
 obtain ⟨bm, V, K, k⟩ := k
 exact ⟨bm, V, K, k.kp hk hS⟩
theorem TabNew.on {w w' : World} {h : Nat} {F : Nat → Prop} {t n : Nat} {T : TT} (k : TabNew w h F t n T) (hb : Below w.heap.size w w') : TabNew w' h F t n T := k.kp (Tp.Kp.of_below hb fun _ => False) fun _ _ h => h.elim
theorem TabNew.own {w : World} {h : Nat} {F : Nat → Prop} {t n : Nat} {T : TT} (k : TabNew w h F t n T) : (∀ b, F b → h ≤ b) ∧ h ≤ t := by
 obtain ⟨bm, V, K, k⟩ := k
 exact ⟨k.own, k.ht⟩
theorem TabNw.far {w w' : World} {h : Nat} {F : Nat → Prop} {t bm n k : Nat} {T : TT} {V K : List UInt8 → Value} (q : TabNw w h F t bm n T V K) (hk0 : Blank w k) (hi : ∃ a b c d, w.heap[k]? = some (.mapIter a b c d)) (hk : Tp.Kp (fun b => b = k) w w') : TabNw w' h F t bm n T V K where
 tab := by
  have ht := q.tab
  obtain ⟨a, b, c, d, hi⟩ := hi
  have hr : ∀ {base : Nat} {e : TypeId} {size : Nat} {v : Value} {n : Nat} {xs : List Value}, w.ownsRow base e size v n xs → v.ownBlock ≠ some k := fun hr hb => by
    obtain ⟨_, _, cur, hh⟩ := own_block hr hb
    rw [hi] at hh
    cases hh
  refine { var := hk.cell ht.var fun e => ?_, map := ht.map.kp hk fun e => ?_, wide := ht.wide, ob := fun s o ho => (ht.ob s o ho).far hk0 hk, row := fun s o ho => own_kp (ht.row s o ho) hk fun j hj e => hr (ht.row s o ho) (by rw [hj, e]), isF := ht.isF, inF := ht.inF, ltF := fun b hb => Nat.lt_of_lt_of_le (ht.ltF b hb) hk.size, dist := ht.dist, notF := ht.notF }
  · have := ht.var
    simp only at e
    rw [e, hk0] at this
    cases this
  · obtain ⟨D, ⟨es, clock, h1, _⟩, _⟩ := ht.map
    rw [e, hi] at h1
    cases h1
 isF := q.isF
 inF := q.inF
 own := q.own
 ht := q.ht
theorem TabNw.set {w W : World} {h : Nat} {F : Nat → Prop} {t bm n : Nat} {T : TT} {V K : List UInt8 → Value} (q : TabNw w h F t bm n T V K) (hh : h ≤ w.heap.size) (hn : n ≤ 100000000000) {s : List UInt8} (hs : s.length ≤ 100000000000) {v vk : Value} {o : Ob} (hw : WideO o) (hB : Below w.heap.size w W)
   (hob : ObjK W (fun x => x < w.heap.size ∨ vk.ownBlock = some x) v vk o) (hrow : W.ownsRow w.heap.size 85 3 vk o.kids.length (kidCells o.kids)) :
   TabNw (putW bm s v W) h (fun x => F x ∨ vk.ownBlock = some x) t bm (n + 1) (updT T s o) (updV V s v) (updV K s vk) := by
 obtain ⟨h1, h2⟩ := q.tab.set_ix hn hs hw hB hob hrow
 have e : (fun x => (F x ∨ vk.ownBlock = some x) ∨ x < h) = fun x => (F x ∨ x < h) ∨ vk.ownBlock = some x := funext fun x => propext ⟨fun h => h.elim (fun h => h.elim (fun h => .inl (.inl h)) .inr) fun h => .inl (.inr h), fun h => h.elim (fun h => h.elim (fun h => .inl (.inl h)) .inr) fun h => .inl (.inr h)⟩
 refine ⟨by rw [e]; exact h1, .inl q.isF, fun s' o' h' b hb => ?_, fun b hb => hb.elim (q.own b) fun hb => Nat.le_trans hh (h2 b hb), q.ht⟩
 unfold updT at h'
 unfold updV at hb
 split at h'
 · rename_i e
   rw [if_pos e] at hb
   exact .inr hb
 · rename_i e
   rw [if_neg e] at hb
   exact .inl (q.inF s' o' h' b hb)
theorem TabNw.emptyT {w : World} {h t N : Nat} (hv : w.cell? ⟨t, 0, none⟩ = some (.map (some N))) (hm : MapV w N 0 (fun _ => none) fun _ => undef) (hN : h ≤ N) (ht : h ≤ t) (hs : h ≤ w.heap.size) : TabNw w h (fun x => x = N) t N 0 (fun _ => none) (fun _ => undef) fun _ => undef :=
 ⟨{ var := hv, map := hm, wide := (fun s o h => by cases h), ob := (fun s o h => by cases h), row := (fun s o h => by cases h), isF := .inl rfl, inF := (fun s o h => by cases h), ltF := (fun b hb => hb.elim (fun hb => by subst hb; exact hm.lt) fun hb => Nat.lt_of_lt_of_le hb hs), dist := (fun s s' o o' h => by cases h), notF := fun e => e.elim (fun e => hm.ne hv e) fun e => by omega }, rfl, (fun s o h => by cases h), (fun b hb => by rw [hb]; exact hN), ht⟩
def ClRel (w : World) (bm r tb n C : Nat) (T : TT) (V : List UInt8 → Value) (wr : World) : Prop :=
 ∃ left cnt T2 F2 nb V2 K2, RngT wr bm r n T V left cnt ∧ cnt ≤ C ∧ TabNw wr w.heap.size F2 tb nb (C - cnt) T2 V2 K2 ∧ (∀ s, T2 s = if left s = true then none else T s) ∧ Below w.heap.size w wr
set_option maxRecDepth 100000 in
set_option maxHeartbeats 2000000 in
theorem clone_new {w : World} {t n : Nat} {T : TT} (ht : GivR w t n T) (hlen : ∀ s o, T s = some o → s.length ≤ 100000000000) (hn : n ≤ 10000000000) :
  Calls Tryz.prog 31 #[.pointer (some ⟨t, 0, none⟩)] w fun e w' => ∃ t', e = .returned (.pointer (some ⟨t', 0, none⟩)) ∧ ∃ F n', n' ≤ n ∧ TabNew w' w.heap.size F t' n' T ∧ Below w.heap.size w w' := by
 have HG := Lib.hid ht
 obtain ⟨bm, V, hv0, hm, hob⟩ := ht
 have hbl := hm.lt
 have HM := Lib.hid hm
 have HO := Lib.hid hob
 have HLN := Lib.hid hlen
 have hmm := @run_makeMap Tryz.prog
 have htl := World.block_lt_of_cell? w _ hv0
 have hB0 : Below w.heap.size w ((w.alloc (.map #[] 0)).alloc (.cells #[.map (some w.heap.size)] 108)) := ((Below.refl _ _).alloc (Nat.le_refl _) _).alloc (by simp) _
 have hm0 : MapV ((w.alloc (.map #[] 0)).alloc (.cells #[.map (some w.heap.size)] 108)) w.heap.size 0 (fun _ => none) fun _ => undef := (MapV.made w).on ((Below.refl _ _).alloc (Nat.le_refl _) _)
 have hc0 : ((w.alloc (.map #[] 0)).alloc (.cells #[.map (some w.heap.size)] 108)).cell? ⟨w.heap.size + 1, 0, none⟩ = some (.map (some w.heap.size)) := by simp
 have T0 := Lib.hid (TabNw.emptyT (h := w.heap.size) hc0 hm0 (Nat.le_refl _) (by omega) hB0.size)
 have B0 := Lib.hid hB0
 have M1 := Lib.hid (hm.on hB0)
 have hsz0 : ((w.alloc (.map #[] 0)).alloc (.cells #[.map (some w.heap.size)] 108)).heap.size = w.heap.size + 1 + 1 := by simp
 clear hm hob hB0 hm0 hc0 hlen
 go_enter Tryz.func31, Tryz.ntmps31
 go_wp2_with (first | (at_range; refine wpList_range_T rfl _ rfl rfl M1.out ?_; intro w0 C hr0 hb0) | go_in)
 first | go_frame | skip
 have hC : C ≤ n := hr0.le
 rw [hsz0] at hr0
 have R0 := Lib.hid hr0
 have B1 := Lib.hid (B0.out.trans (hb0.mono B0.out.size))
 have T1 := Lib.hid (T0.out.kp (Tp.Kp.of_below hb0 fun _ => False) fun _ _ h => h.elim)
 clear hr0 hb0
 go_loopw [4] (fun _ wr => ClRel w bm (w.heap.size + 1 + 1) (w.heap.size + 1) n C T V wr) (fun _ wr => wr.rangeLeft bm (w.heap.size + 1 + 1))
 case atStart => exact ⟨fun s => (T s).isSome, C, fun _ => none, _, _, _, _, R0.out, Nat.le_refl _, by rw [Nat.sub_self]; exact T1.out, (fun s => by show none = if (T s).isSome = true then none else T s; cases T s <;> simp), B1.out⟩
 case round =>
  obtain ⟨left, cnt, T2, F2, nb, V2, K2, hrg, hcC, ht2, hT2, hb⟩ := hrel
  have HRG := Lib.hid hrg
  have HT2 := Lib.hid ht2
  have HTT := Lib.hid hT2
  have HB := Lib.hid hb
  have hsz := hb.size
  clear hrg ht2 hT2 hb
  go_wp2_with (first | (at_next; refine wpList_next_T rfl _ rfl rfl HRG.out ?_ ?_))
  · intro hc0 hl0
    have hTe : T2 = T := funext fun s => by rw [HTT.out, hl0]; rfl
    have HTE := Lib.hid hTe
    clear hl0 hTe
    go_wp2_with fail
    go_ret
    refine ⟨_, rfl, F2, C - cnt, by omega, by rw [← HTE.out]; exact ⟨_, _, _, HT2.out⟩, HB.out⟩
  · intro s o w1 cnt1 hls hTs hrg1 hlt1 hg1 hs1 hen
    have hk1 := kp_one hg1
    clear hs1
    have hb1 : Below w.heap.size w w1 := HB.out.trans (hk1.below hsz fun k e => by rw [e]; omega)
    have hob := (HO.out s o hTs).2.read hb1
    have HWO := Lib.hid (HO.out s o hTs).1
    have HSL := Lib.hid (HLN.out s o hTs)
    have ht1 := HT2.out.far HRG.out.blank HRG.out.iter hk1
    have HTI := Lib.hid ht1
    have HR1 := Lib.hid hrg1
    have B1' := Lib.hid hb1
    obtain ⟨vk, ⟨vl, vb, vo, ve, vm, hV, ⟨Al, cl, rfl, -⟩, ⟨Ab, cb, rfl, -⟩, ⟨Ao, co, rfl, -⟩, ⟨Ae, ce, rfl, -⟩, ⟨Am, cm, rfl, -⟩⟩, ⟨Ak, ck, rfl, -⟩⟩ := id hob
    obtain ⟨vs, hvs⟩ : ∃ v, v = V s := ⟨_, rfl⟩
    rw [← hvs] at hob hV hen
    have R10 : Hid (∀ W, Below w1.heap.size w1 W → Calls Tryz.prog 10 #[vs] W (RetObj W o)) := fun W hW => copy_any (hob.read hW) HWO.out
    have HTS := Lib.hid hTs
    have HMS : Hid (cnt = wr.rangeLeft bm (w.heap.size + 1 + 1)) := HRG.out.lt.2.symm
    subst hV
    obtain ⟨S, hS⟩ : ∃ S, S = str s := ⟨_, rfl⟩
    rw [← hS] at hen
    rw [← hS]
    have htv := ht1.tab.var
    have htb := World.block_lt_of_cell? w1 _ htv
    have hX0 := BoxAt.new w1 #[.int .i64 o.kind, .slice Al o.lab.length cl, .slice Ak o.kids.length ck, .int .i64 o.next, .slice Ab o.bytes.length cb, .slice Ao o.own.length co, .int .i64 o.cats, .slice Ae o.entry.length ce, .int .i64 o.ring, .slice Am o.maps.length cm] 29
    have hbx : Below w1.heap.size w1 (w1.alloc (.cells #[.int .i64 o.kind, .slice Al o.lab.length cl, .slice Ak o.kids.length ck, .int .i64 o.next, .slice Ab o.bytes.length cb, .slice Ao o.own.length co, .int .i64 o.cats, .slice Ae o.entry.length ce, .int .i64 o.ring, .slice Am o.maps.length cm] 29)) := (Below.refl _ _).alloc (Nat.le_refl _) _
    obtain ⟨Wq, hWq⟩ : ∃ W, W = w1.alloc (.cells #[.int .i64 o.kind, .slice Al o.lab.length cl, .slice Ak o.kids.length ck, .int .i64 o.next, .slice Ab o.bytes.length cb, .slice Ao o.own.length co, .int .i64 o.cats, .slice Ae o.entry.length ce, .int .i64 o.ring, .slice Am o.maps.length cm] 29) := ⟨_, rfl⟩
    rw [← hWq] at hX0 hbx
    have hbq : ∀ W, Below Wq.heap.size Wq W → Below w1.heap.size w1 W := fun W h => next_below hbx h
    have hrun : ∀ W, Below Wq.heap.size Wq W → (∀ v, (Instr.mapUpdate 72 (.map (some nb)) (.string S) v).run Tryz.prog (W) = .ok () (putW nb s v (W))) := fun W hW v => by
     rw [hS]
     exact ((HTI.out.tab.map.on (hbq W hW)).put (by omega) HSL.out v).1
    have hrun2 : ∀ W u, Below Wq.heap.size Wq W → (∀ v, (Instr.mapUpdate 72 (.map (some nb)) (.string S) v).run Tryz.prog (putW nb s u W) = .ok () (putW nb s v (putW nb s u W))) := fun W u hW v => by
     rw [hS]
     exact ((((HTI.out.tab.map.on (hbq W hW)).put (by omega) HSL.out u).2.1 o).put (by omega) HSL.out v).1
    have mk : ∀ W, Below Wq.heap.size Wq W → BoxAt W w1.heap.size #[.int .i64 o.kind, .slice Al o.lab.length cl, .slice Ak o.kids.length ck, .int .i64 o.next, .slice Ab o.bytes.length cb, .slice Ao o.own.length co, .int .i64 o.cats, .slice Ae o.entry.length ce, .int .i64 o.ring, .slice Am o.maps.length cm] 29 → (W).cell? ⟨w.heap.size + 1, 0, none⟩ = some (.map (some nb)) ∧ (W).cell? ⟨w1.heap.size, 0, none⟩ = some (.int .i64 o.kind) ∧ (W).cell? ⟨w1.heap.size, 1, none⟩ = some (.slice Al o.lab.length cl) ∧ (W).cell? ⟨w1.heap.size, 2, none⟩ = some (.slice Ak o.kids.length ck) ∧ (W).cell? ⟨w1.heap.size, 3, none⟩ = some (.int .i64 o.next) ∧ (W).cell? ⟨w1.heap.size, 4, none⟩ = some (.slice Ab o.bytes.length cb) ∧ (W).cell? ⟨w1.heap.size, 5, none⟩ = some (.slice Ao o.own.length co) ∧ (W).cell? ⟨w1.heap.size, 6, none⟩ = some (.int .i64 o.cats) ∧ (W).cell? ⟨w1.heap.size, 7, none⟩ = some (.slice Ae o.entry.length ce) ∧ (W).cell? ⟨w1.heap.size, 8, none⟩ = some (.int .i64 o.ring) ∧ (W).cell? ⟨w1.heap.size, 9, none⟩ = some (.slice Am o.maps.length cm) ∧ (∀ v, (Instr.mapUpdate 72 (.map (some nb)) (.string S) v).run Tryz.prog (W) = .ok () (putW nb s v (W))) := fun W hW hX => by
     obtain ⟨q0, q1, q2, q3, q4, q5, q6, q7, q8, q9⟩ := box10 hX
     exact ⟨((hbq W hW).cell (p := ⟨w.heap.size + 1, 0, none⟩) htb).trans htv, q0, q1, q2, q3, q4, q5, q6, q7, q8, q9, hrun W hW⟩
    have mkP : ∀ W u, Below Wq.heap.size Wq W → BoxAt W w1.heap.size #[.int .i64 o.kind, .slice Al o.lab.length cl, .slice Ak o.kids.length ck, .int .i64 o.next, .slice Ab o.bytes.length cb, .slice Ao o.own.length co, .int .i64 o.cats, .slice Ae o.entry.length ce, .int .i64 o.ring, .slice Am o.maps.length cm] 29 → (putW nb s u W).cell? ⟨w.heap.size + 1, 0, none⟩ = some (.map (some nb)) ∧ (putW nb s u W).cell? ⟨w1.heap.size, 0, none⟩ = some (.int .i64 o.kind) ∧ (putW nb s u W).cell? ⟨w1.heap.size, 1, none⟩ = some (.slice Al o.lab.length cl) ∧ (putW nb s u W).cell? ⟨w1.heap.size, 2, none⟩ = some (.slice Ak o.kids.length ck) ∧ (putW nb s u W).cell? ⟨w1.heap.size, 3, none⟩ = some (.int .i64 o.next) ∧ (putW nb s u W).cell? ⟨w1.heap.size, 4, none⟩ = some (.slice Ab o.bytes.length cb) ∧ (putW nb s u W).cell? ⟨w1.heap.size, 5, none⟩ = some (.slice Ao o.own.length co) ∧ (putW nb s u W).cell? ⟨w1.heap.size, 6, none⟩ = some (.int .i64 o.cats) ∧ (putW nb s u W).cell? ⟨w1.heap.size, 7, none⟩ = some (.slice Ae o.entry.length ce) ∧ (putW nb s u W).cell? ⟨w1.heap.size, 8, none⟩ = some (.int .i64 o.ring) ∧ (putW nb s u W).cell? ⟨w1.heap.size, 9, none⟩ = some (.slice Am o.maps.length cm) ∧ (∀ v, (Instr.mapUpdate 72 (.map (some nb)) (.string S) v).run Tryz.prog (putW nb s u W) = .ok () (putW nb s v (putW nb s u W))) := fun W u hW hX => by
     have hK : Tp.Kp (fun b => b = nb) W (putW nb s u W) := (Tp.Kp.refl _ W).grown ((HTI.out.tab.map.on (hbq W hW)).put (by omega) HSL.out u).2.2 fun k e _ => by injection e with e; exact e.symm
     have hbl2 := HTI.out.tab.map.lt
     have hX := hX.kp hK (fun e => by omega)
     obtain ⟨q0, q1, q2, q3, q4, q5, q6, q7, q8, q9⟩ := box10 hX
     exact ⟨hK.cell (((hbq W hW).cell (p := ⟨w.heap.size + 1, 0, none⟩) htb).trans htv) (fun e => HTI.out.tab.map.ne htv e), q0, q1, q2, q3, q4, q5, q6, q7, q8, q9, hrun2 W u hW⟩
    have hb0 : Below Wq.heap.size Wq Wq := Below.refl _ _
    have hdr : Below Wq.heap.size Wq Wq.drew := (Below.refl _ _).drew
    have xdr := hX0.drew
    have HBQ := Lib.hid hbq
    have HWQ : Hid (w1.heap.size ≤ Wq.heap.size) := hbx.size
    have HS := Lib.hid hS
    clear hob hk1 hb1 hrg1 hg1 hTs hls hvs ht1 hS hbq hrun hrun2 hbx
    go_wp2_with fail
    rw [← hWq]
    clear hWq
    go_region_held3 (fun W => (W).cell? ⟨w.heap.size + 1, 0, none⟩ = some (.map (some nb)) ∧ (W).cell? ⟨w1.heap.size, 0, none⟩ = some (.int .i64 o.kind) ∧ (W).cell? ⟨w1.heap.size, 1, none⟩ = some (.slice Al o.lab.length cl) ∧ (W).cell? ⟨w1.heap.size, 2, none⟩ = some (.slice Ak o.kids.length ck) ∧ (W).cell? ⟨w1.heap.size, 3, none⟩ = some (.int .i64 o.next) ∧ (W).cell? ⟨w1.heap.size, 4, none⟩ = some (.slice Ab o.bytes.length cb) ∧ (W).cell? ⟨w1.heap.size, 5, none⟩ = some (.slice Ao o.own.length co) ∧ (W).cell? ⟨w1.heap.size, 6, none⟩ = some (.int .i64 o.cats) ∧ (W).cell? ⟨w1.heap.size, 7, none⟩ = some (.slice Ae o.entry.length ce) ∧ (W).cell? ⟨w1.heap.size, 8, none⟩ = some (.int .i64 o.ring) ∧ (W).cell? ⟨w1.heap.size, 9, none⟩ = some (.slice Am o.maps.length cm) ∧ (∀ v, (Instr.mapUpdate 72 (.map (some nb)) (.string S) v).run Tryz.prog (W) = .ok () (putW nb s v (W))))
     (first | with_reducible exact mkP _ _ B9.out x9 | with_reducible exact mk _ B9.out x9 | with_reducible exact mk _ hdr xdr | with_reducible exact mk _ hb0 hX0)
     (first | (go_at_call 10; refine (R10.out _ (HBQ.out _ hdr)).mono ?_; rintro e W9 ⟨hb9, v3, vk3, rfl, hrow, hob9⟩; have B9 := Lib.hid (next_below hdr hb9); have x9 := xdr.on hb9; have RW := Lib.hid hrow; have OB := Lib.hid hob9; clear hb9 hrow hob9))
    clear mk mkP hdr xdr x9 hb0 hX0
    have hB9 := HBQ.out _ B9.out
    have hnb : w.heap.size ≤ nb := HTI.out.own _ HTI.out.isF
    have hgp := ((HTI.out.tab.map.on hB9).put (by omega) HSL.out v3).2.2
    have hT' := HTI.out.set B1'.out.size (s := s) (v := v3) (vk := vk3) (o := o) (by omega) HSL.out HWO.out hB9 (OB.out.on (Below.refl _ _) fun b _ h => h.imp (fun h => Nat.lt_of_lt_of_le h HWQ.out) id) (own_base RW.out HWQ.out)
    have hmap9 := HTI.out.tab.map.on hB9
    have hR9 := (HR1.out.on hB9).kept hgp (fun e => by injection e with e; omega) (fun e => by
     injection e with e
     obtain ⟨_, _, _, _, h1⟩ := (HR1.out.on hB9).iter
     obtain ⟨D, ⟨es, clock, h2, _⟩, _⟩ := hmap9
     rw [← e, h1] at h2
     cases h2)
    have hbel : Below w.heap.size w (putW nb s v3 W9) := (B1'.out.trans (hB9.mono B1'.out.size)).grown hgp (Nat.le_trans B1'.out.size hB9.size) (fun k e => by injection e with e; omega)
    have HT' := Lib.hid hT'
    have HR9 := Lib.hid hR9
    have HBL := Lib.hid hbel
    clear hB9 hT' hmap9 hR9 hbel hgp
    have hms := HMS.out
    go_wp2_with fail
    go_roundw
    case rel =>
     refine ⟨_, cnt1, updT T2 s o, _, _, _, _, HR9.out, by omega, HT'.out.more (by omega), fun x => ?_, HBL.out⟩
     unfold updT
     by_cases e : x = s
     · subst e
       rw [if_pos rfl, if_neg (by simp), HTS.out]
     · rw [if_neg e, HTT.out]
       simp [e]
    case measure => rw [HR9.out.lt.2, ← hms]; exact hlt1
theorem clone_any {w : World} {t n : Nat} {T : TT} (ht : GivR w t n T) (hlen : ∀ s o, T s = some o → s.length ≤ 100000000000) (hn : n ≤ 10000000000) :
  Calls Tryz.prog 31 #[.pointer (some ⟨t, 0, none⟩)] w fun e w' => ∃ t', e = .returned (.pointer (some ⟨t', 0, none⟩)) ∧ w.heap.size ≤ t' ∧ ∃ F n', n' ≤ n ∧ TabAt w' F t' n' T ∧ Stp w (fun _ => False) w' F := by
 refine (clone_new ht hlen hn).mono ?_
 rintro e w' ⟨t', h1, F, n', h2, h3, h4⟩
 exact ⟨t', h1, h3.own.2, F, n', h2, h3.at, Tp.Kp.of_below h4 _, fun b hb => .inr (h3.own.1 b hb)⟩
end Go.Proofs.YtgcbfggoddkhnaaGreatDoor
namespace Go.Proofs.YtgcbfggoddkhnaaGreatDoor
open Go.RowKit
open Pa (encZ zBytes)
def tabBytes (L : Tab) : List Nat := Tp.enc L.length ++ L.flatMap itemBytes
theorem pen_new (w : World) : PenF (w.alloc (.cells #[.slice none 0 0] 36)) (fun b => b = w.heap.size) w.heap.size [] :=
 ⟨none, ⟨.slice none 0 0, by simp, by simp, rfl, World.ownsRow_nil _ _ _ _, by simp⟩, rfl, (fun j h => by cases h), fun b hb => by subst hb; simp⟩
def ByRel (w w1 : World) (g : Nat) (L : Tab) (k : Nat) (i : Value) (wr : World) : Prop :=
 ∃ m, m + k = L.length ∧ i = .int .i64 (m : Int) ∧ StepF w1 (fun b => b = g) g (Tp.enc L.length ++ (L.take m).flatMap itemBytes) wr ∧ Below w.heap.size w wr
set_option maxRecDepth 100000 in
set_option maxHeartbeats 4000000 in
theorem bytes_any {w : World} {t n : Nat} {T : TT} {L : Tab} (he : Env w) (ht : GivR w t n T) (hI : IsT T L) (hA : Asc L) (hok : ∀ x ∈ L, Pa.PathOk x.1) (hn : n ≤ 10000000000) (hb : (tabBytes L).length ≤ 80000000) :
  Calls Tryz.prog 30 #[.pointer (some ⟨t, 0, none⟩)] w (Tp.RetCopy w (tabBytes L)) := by
 have hB0 : Below w.heap.size w (w.alloc (.cells #[.slice none 0 0] 36)) := (Below.refl _ _).alloc (Nat.le_refl _) _
 have P0 := Lib.hid (pen_new w)
 have H29 := Lib.hid (paths_any (he.on hB0) (ht.on hB0) hI hA hok hn)
 obtain ⟨bm, V, hv0, hm, hob⟩ := ht
 have HE := Lib.hid he
 have HI := Lib.hid hI
 have HA := Lib.hid hA
 have HOK := Lib.hid hok
 have HM := Lib.hid hm
 have HO := Lib.hid hob
 have htl := World.block_lt_of_cell? w _ hv0
 have hbl := hm.lt
 have B0 := Lib.hid hB0
 have hll : L.length ≤ 80000000 := by
  have : ∀ l : Tab, l.length ≤ (l.flatMap itemBytes).length := fun l => by
   induction l with
   | nil => simp
   | cons x r ih =>
    have := Tp.enc_pos x.1.length
    simp only [List.flatMap_cons, List.length_append, List.length_cons, itemBytes, zBytes]
    omega
  have h := this L
  unfold tabBytes at hb
  rw [List.length_append] at hb
  omega
 have HTB : Hid (∀ m, (Tp.enc L.length ++ (L.take m).flatMap itemBytes).length ≤ 80000000) := fun m => by
  have := flat_take itemBytes L m
  unfold tabBytes at hb
  rw [List.length_append] at hb ⊢
  omega
 have hq : encZ (L.length : Int) = Tp.enc L.length := by unfold encZ; rw [if_pos (by omega)]; simp
 have HQ := Lib.hid hq
 obtain ⟨TB, hTB⟩ : ∃ TB, TB = tabBytes L := ⟨_, rfl⟩
 have HTBE := Lib.hid hTB
 rw [← hTB] at hb
 rw [← hTB]
 have HBB := Lib.hid hb
 clear he hI hA hok hm hob hB0 hq hb hTB
 go_enter Tryz.func30, Tryz.ntmps30
 go_wp2_with fail
 refine H29.out.mono ?_
 rintro e w1 ⟨hb1, v, rfl, hps⟩
 have hsA : (w.alloc (.cells #[.slice none 0 0] 36)).heap.size = w.heap.size + 1 := by simp
 rw [hsA] at hps
 have B1 := Lib.hid (next_below B0.out hb1)
 have P1 := Lib.hid (P0.out.on hb1)
 have HPS := Lib.hid hps
 obtain ⟨Ap, cp, rfl, -⟩ := hps
 have hml : (L.map Prod.fst).length = L.length := List.length_map _
 rw [hml] at HPS
 rw [hml]
 have H51 := Lib.hid (penF_num (z := (L.length : Int)) P1.out (by simp))
 rw [HQ.out] at H51
 clear hb1 hsA hml H29
 go_wp2_with fail
 refine H51.out.mono ?_
 rintro e w2 ⟨⟨b0, rfl⟩, h2⟩
 have B2 : Hid (Below w.heap.size w w2) := by
  obtain ⟨F2, _, h3, _⟩ := h2
  exact B1.out.trans (h3.below B1.out.size fun k e => by rw [e]; exact Nat.le_refl _)
 have H2 := Lib.hid h2
 clear h2 H51
 go_wp2_with fail
 go_loopg [16] L.length (fun k i wr => ByRel w w1 w.heap.size L k i wr)
 case atStart => exact ⟨0, by simp, rfl, by simpa using H2.out, B2.out⟩
 case round =>
  obtain ⟨m, hmk, hi, hst, hbw⟩ := hrel
  subst hi
  have HBW := Lib.hid hbw
  obtain ⟨F1, hp1, hs1⟩ := hst
  have hF1 : ∀ b, F1 b → w.heap.size ≤ b := fun b hb => (hs1.2 b hb).elim (fun h => by rw [h]; exact Nat.le_refl _) fun h => Nat.le_trans B1.out.size h
  cases gk with
  | zero =>
   have hge : L.length ≤ m := by omega
   rw [List.take_of_length_le hge, show Tp.enc L.length ++ L.flatMap itemBytes = TB from HTBE.out.symm] at hp1
   obtain ⟨kk, hpen, hg1, hkk, hlt⟩ := hp1
   have H13 := Lib.hid (Tp.pen_bytes hpen (by have := HBB.out; omega))
   have hpos : w.heap.size ≤ wr.heap.size := hbw.size
   clear hpen hs1 hbw hmk
   go_wp2_with (first | (go_at_call 13; refine H13.out.mono ?_; rintro e w9 ⟨A9, c9, rfl, r1, r2, r3, r4, r5, r6⟩))
   have hr6 := next_below HBW.out r6
   go_ret
   exact ⟨A9, c9, rfl, r1, fun a ha => by obtain ⟨b, h1, h2, h3⟩ := r2 a ha; exact ⟨b, h1, by omega, h3⟩, r3, r4, r5, hr6⟩
  | succ j =>
   have hm : m < L.length := by omega
   obtain ⟨⟨px, ox⟩, hx⟩ : ∃ x, L[m]? = some x := ⟨_, List.getElem?_eq_getElem hm⟩
   have hmem := List.mem_of_getElem? hx
   have hpok : Pa.PathOk px := HOK.out _ hmem
   have hTx : T (Pa.zText px) = some ox := (HI.out.at' px).trans (fnd_of HA.out hmem)
   obtain ⟨Ax, cx2, hAx, hpc⟩ := HPS.out
   injection hAx with e1 e2 e3
   clear e2
   subst e1 e3
   obtain ⟨b, off, rfl, hbase, hblt, hpcs⟩ := hpc (by rw [List.length_map]; omega)
   obtain ⟨u, hcu, hsu⟩ := hpcs m px (by rw [List.getElem?_map, hx]; rfl)
   have d1 := hs1.1.cell hcu (by simp only; omega)
   have hsu1 : SlV wr F1 u px.length (Pa.zCellsOf px) := hsu.kp hs1.1 (fun x _ e => by rw [e]; omega) fun x hxl h => (hs1.2 x h).elim (fun e => by rw [e]; omega) fun h => by omega
   obtain ⟨pb, hpb⟩ : ∃ pb, pb = Tp.enc L.length ++ (L.take m).flatMap itemBytes := ⟨_, rfl⟩
   obtain ⟨pc, hpc2⟩ : ∃ pc, pc = pb ++ zBytes px := ⟨_, rfl⟩
   have HPB : Hid (pc ++ obBytes ox = Tp.enc L.length ++ (L.take (m + 1)).flatMap itemBytes) := by
    unfold Hid
    rw [List.take_add_one, hx, List.flatMap_append, hpc2, hpb]
    simp [itemBytes]
   have l2 := HTB.out (m + 1)
   rw [← HPB.out] at l2
   have l1 : pc.length ≤ 80000000 := by rw [List.length_append] at l2; omega
   rw [← hpb] at hp1
   have HMK := Lib.hid hmk
   obtain ⟨Au, cu, rfl, -⟩ := id hsu1
   have H55 := Lib.hid (pathPut_any hp1 hsu1 (by have := hpok.1; omega) (by rw [← hpc2]; exact l1))
   rw [← hpc2] at H55
   have HSU := Lib.hid hsu1
   have HS1 := Lib.hid hs1
   have HF1 := Lib.hid hF1
   have HL2 := Lib.hid l2
   have HTX := Lib.hid hTx
   have HPK := Lib.hid hpok
   clear hp1 hs1 hF1 hbw hmk hx hmem hpok hTx hpc hpcs hcu hsu hsu1 hpb hpc2 l1 l2
   go_wp2_with fail
   refine H55.out.mono ?_
   rintro e w3 ⟨rfl, F2, hp2, hs2⟩
   have hF2 : ∀ b, F2 b → w.heap.size ≤ b := fun b hb => (hs2.2 b hb).elim (HF1.out b) fun h => Nat.le_trans HBW.out.size h
   have b9 : Below w.heap.size w w3 := HBW.out.trans (hs2.1.below HBW.out.size HF1.out)
   have hsu2 := HSU.out.stp hs2
   obtain ⟨A', c', hA', hpl2⟩ := path_pl hsu2 HPK.out
   injection hA' with e1 _ e3
   subst e1 e3
   have hd : Below w3.heap.size w3 w3.drew := (Below.refl _ _).drew
   have hxl : px.length ≤ 10000000 := by have := HPK.out.1; omega
   obtain ⟨S, hS⟩ : ∃ S, S = str (Pa.zText px) := ⟨_, rfl⟩
   have R68 := Lib.hid (Pa.text_any (c := cu) (he := HE.out.on (next_below b9 hd)) (hpl2.on hd).zs HPK.out.wide hxl)
   rw [← hS] at R68
   have hlk : ∀ W, Below w.heap.size w W → (Instr.lookup 72 (.map (some bm)) (.string S) false).run Tryz.prog W = .ok (V (Pa.zText px)) W := fun W hW => by
    rw [hS, (HM.out.on hW).look1 (by have := Pa.zText_len HPK.out.wide; omega)]
    unfold lookV
    rw [HTX.out]
   have mk : ∀ W, Below w.heap.size w W → W.cell? ⟨t, 0, none⟩ = some (.map (some bm)) ∧ (Instr.lookup 72 (.map (some bm)) (.string S) false).run Tryz.prog W = .ok (V (Pa.zText px)) W := fun W hW => ⟨(hW.cell (p := ⟨t, 0, none⟩) htl).trans hv0, hlk W hW⟩
   have b9d := next_below b9 hd
   have R12 : Hid (∀ W, Below w3.heap.size w3 W → Calls Tryz.prog 12 #[.pointer (some ⟨w.heap.size, 0, none⟩), V (Pa.zText px)] W fun e w' => e = .returned (.tuple #[]) ∧ StepF W F2 w.heap.size (pc ++ obBytes ox) w' ∧ Below w.heap.size w w') := fun W hW => by
    have hbW := next_below b9 hW
    have hoW : ObjAt W F2 (V (Pa.zText px)) ox := (HO.out _ _ HTX.out).2.kp (S := fun b => w.heap.size ≤ b) (Tp.Kp.of_below hbW _) (fun b hb h => by omega) fun b hb h => by have := hF2 b h; omega
    refine (tput_any (hp2.on hW) hoW (HO.out _ _ HTX.out).1 HL2.out).mono ?_
    rintro e w' ⟨rfl, F3, h1, h2⟩
    exact ⟨rfl, ⟨F3, h1, h2⟩, hbW.trans (h2.1.below hbW.size hF2)⟩
   have HS2 := Lib.hid hs2
   clear hp2 hs2 hsu2 hpl2 hS hlk d1 hF2 H55
   obtain ⟨VS, hVS⟩ : ∃ v, v = V (Pa.zText px) := ⟨_, rfl⟩
   rw [← hVS] at R12 mk
   clear hVS
   go_wp2_with fail
   go_region_held3 (fun W => W.cell? ⟨t, 0, none⟩ = some (.map (some bm)) ∧ (Instr.lookup 72 (.map (some bm)) (.string S) false).run Tryz.prog W = .ok VS W)
    (first | with_reducible exact mk _ b11 | with_reducible exact mk _ b10 | with_reducible exact mk _ b9d | with_reducible exact mk _ b9)
    (first
     | (go_at_call 12; refine (R12.out _ hd10).mono ?_; rintro e w11 ⟨rfl, h11, b11⟩; have H11 := Lib.hid h11; clear h11)
     | (go_at_call 68; refine R68.out.mono ?_; rintro e w10 ⟨rfl, hb10⟩; have hd10 := next_below hd hb10; have b10 := next_below b9 hd10; clear hb10))
   have HFIN : Hid (StepF w1 (fun b => b = w.heap.size) w.heap.size (Tp.enc L.length ++ (L.take (m + 1)).flatMap itemBytes) w11) := by
    rw [← HPB.out]
    exact PenF.then ((HS1.out.trans HS2.out).trans (Stp.of_below hd10)) H11.out
   have HB11 := Lib.hid b11
   clear mk hd hd10 b9 b9d b10 b11
   go_wp2_with fail
   go_roundg j
   case measure => omega
   case rel => exact ⟨m + 1, by have := HMK.out; omega, by go_num, HFIN.out, HB11.out⟩
end Go.Proofs.YtgcbfggoddkhnaaGreatDoor
namespace Go.Proofs.YtgcbfggoddkhnaaGreatDoor
open Go.RowKit
structure ValidT (T : TT) : Prop where
 root : ∃ r, T (Pa.zText []) = some r ∧ r.kind = 1
 ob : ∀ s o, T s = some o → ObOk o
 fits : ∀ s o, T s = some o → ∃ p, Pa.IsPath s p ∧ uses o ≤ quotaP (atP T) p ∧ HoldsP (atP T) p o
noncomputable instance (T : TT) : Decidable (ValidT T) := Classical.propDecidable _
noncomputable def validB (T : TT) : Bool := decide (ValidT T)
theorem validB_true {T : TT} (h : ValidT T) : validB T = true := decide_eq_true h
theorem validB_false {T : TT} (h : ¬ ValidT T) : validB T = false := decide_eq_false h
def VaRel (w : World) (bm r n : Nat) (T : TT) (V : List UInt8 → Value) (Pr : List UInt8 → Ob → Prop) (wr : World) : Prop :=
 ∃ left cnt, RngT wr bm r n T V left cnt ∧ (∀ s o, T s = some o → left s = false → Pr s o) ∧ Below w.heap.size w wr
set_option maxRecDepth 100000 in
set_option maxHeartbeats 2000000 in
theorem valid_any {w : World} {t n : Nat} {T : TT} (he : Env w) (ht : GivR w t n T) (hlen : ∀ s o, T s = some o → s.length ≤ 100000000000) :
  Calls Tryz.prog 100 #[.pointer (some ⟨t, 0, none⟩)] w (RetB w (.bool (validB T))) := by
 have H75 := find_read he ht (Pa.pl_nil w) (by simp)
 have HG := Lib.hid ht
 obtain ⟨bm, V, hv0, hm, hob⟩ := ht
 have htl := World.block_lt_of_cell? w _ hv0
 have hbl := hm.lt
 have HM := Lib.hid hm
 have HO := Lib.hid hob
 have HE := Lib.hid he
 have HLN := Lib.hid hlen
 obtain ⟨ro, hro⟩ : ∃ o, o = atT T (Pa.zText []) := ⟨_, rfl⟩
 obtain ⟨rk, hrk⟩ : ∃ ok, ok = (T (Pa.zText [])).isSome := ⟨_, rfl⟩
 have HROOT : Hid ((∃ r, T (Pa.zText []) = some r ∧ r.kind = 1) ↔ rk = true ∧ ro.kind = 1) := by
  unfold Hid
  rw [hro, hrk]
  unfold atT
  cases T (Pa.zText []) with
  | none => simp
  | some o => exact ⟨fun ⟨r, h1, h2⟩ => by injection h1 with h1; subst h1; exact ⟨rfl, h2⟩, fun ⟨_, h⟩ => ⟨o, rfl, h⟩⟩
 unfold RetFind at H75
 rw [← hro, ← hrk] at H75
 have H75 := Lib.hid H75
 clear he hm hob hlen hro hrk
 go_enter Tryz.func100, Tryz.ntmps100
 go_wp2_with fail
 refine H75.out.mono ?_
 rintro e w1 ⟨hb1, v1, rfl, hv1, -⟩
 obtain ⟨vk1, ⟨vl1, vb1, vo1, ve1, vm1, rfl, ⟨Al1, cl1, rfl, -⟩, ⟨Ab1, cb1, rfl, -⟩, ⟨Ao1, co1, rfl, -⟩, ⟨Ae1, ce1, rfl, -⟩, ⟨Am1, cm1, rfl, -⟩⟩, ⟨Ak1, ck1, rfl, -⟩⟩ := hv1
 have B2 : Hid (∀ O, Below w.heap.size w (w1.alloc O)) := fun O => next_below hb1 ((Below.refl _ _).alloc (Nat.le_refl _) O)
 have M2 : Hid (∀ O, MapV (w1.alloc O) bm n T V) := fun O => HM.out.on (B2.out O)
 have hc2 : ∀ O, (w1.alloc O).cell? ⟨t, 0, none⟩ = some (.map (some bm)) := fun O => ((B2.out O).cell (p := ⟨t, 0, none⟩) htl).trans hv0
 clear hb1 H75
 cases rk with
 | false =>
  have HD : Hid (validB T = false) := validB_false fun h => by have := (HROOT.out.1 h.root).1; cases this
  go_wp2_with fail
  go_ret
  exact ⟨by rw [HD.out] <;> rfl, B2.out _⟩
 | true =>
  by_cases hk : ro.kind = 1
  case neg =>
   have q1 : (ro.kind == 1) = false := by simpa using hk
   have q2 : (ro.kind != 1) = true := by simpa using hk
   have HD : Hid (validB T = false) := validB_false fun h => hk (HROOT.out.1 h.root).2
   clear hk
   go_wp2_with fail
   go_ret
   exact ⟨by rw [HD.out] <;> rfl, B2.out _⟩
  have q1 : (ro.kind == 1) = true := by simpa using hk
  have q2 : (ro.kind != 1) = false := by simpa using hk
  have HRT := Lib.hid (HROOT.out.2 ⟨rfl, hk⟩)
  clear hk
  go_wp2_with (first | (at_range; refine wpList_range_T rfl _ rfl rfl (M2.out _) ?_; intro w0 C hr0 hb0) | go_in)
  first | go_frame | skip
  have B3 := Lib.hid (next_below (B2.out _) hb0)
  obtain ⟨r1, hr1⟩ : ∃ r, r = (w1.alloc (.cells #[.int .i64 ro.kind, .slice Al1 ro.lab.length cl1, .slice Ak1 ro.kids.length ck1, .int .i64 ro.next, .slice Ab1 ro.bytes.length cb1, .slice Ao1 ro.own.length co1, .int .i64 ro.cats, .slice Ae1 ro.entry.length ce1, .int .i64 ro.ring, .slice Am1 ro.maps.length cm1] 29)).heap.size := ⟨_, rfl⟩
  have hr1w : w.heap.size ≤ r1 := by rw [hr1]; exact (B2.out _).size
  have hr1e : w1.heap.size + 1 = r1 := by rw [hr1]; simp
  rw [← hr1] at hr0
  try rw [← hr1]
  try rw [hr1e]
  have R0 := Lib.hid hr0
  clear hr0 hb0 hr1 hr1e hc2 q1 q2
  go_loopw [6] (fun _ wr => VaRel w bm r1 n T V (fun _ o => ObOk o) wr) (fun _ wr => wr.rangeLeft bm r1)
  case atStart => exact ⟨_, C, R0.out, (fun s o h1 h2 => by rw [h1] at h2; cases h2), B3.out⟩
  case round =>
   obtain ⟨left, cnt, hrg, hall, hb⟩ := hrel
   have HRG := Lib.hid hrg
   have HALL := Lib.hid hall
   have HB := Lib.hid hb
   have hsz := hb.size
   clear hrg hall hb
   go_wp2_with (first | (at_next; refine wpList_next_T rfl _ rfl rfl HRG.out ?_ ?_))
   · intro hc0 hl0
     have HA1 : Hid (∀ s o, T s = some o → ObOk o) := fun s o h => HALL.out s o h (hl0 s)
     have M3 := Lib.hid (HM.out.on HB.out)
     have hc3 := (HB.out.cell (p := ⟨t, 0, none⟩) htl).trans hv0
     clear hl0 hc0
     obtain ⟨Wo, hWo⟩ : ∃ X, X = wr := ⟨_, rfl⟩
     subst hWo
     go_wp2_with (first | (at_range; refine wpList_range_T rfl _ rfl rfl M3.out ?_; intro w3 C3 hr3 hb3) | go_in)
     first | go_frame | skip
     have R3 := Lib.hid hr3
     have B4 := Lib.hid (next_below HB.out hb3)
     clear hr3 hb3 hc3
     go_loopw [7] (fun _ wr => VaRel w bm Wo.heap.size n T V (fun s o => ∃ p, Pa.IsPath s p ∧ uses o ≤ quotaP (atP T) p ∧ HoldsP (atP T) p o) wr) (fun _ wr => wr.rangeLeft bm Wo.heap.size)
     case atStart => exact ⟨_, C3, R3.out, (fun s o h1 h2 => by rw [h1] at h2; cases h2), B4.out⟩
     case round =>
       obtain ⟨left, cnt, hrg, hall, hb⟩ := hrel
       have HRG := Lib.hid hrg
       have HALL := Lib.hid hall
       have HB := Lib.hid hb
       have hsz2 := hb.size
       clear hrg hall hb
       go_wp2_with (first | (at_next; refine wpList_next_T rfl _ rfl rfl HRG.out ?_ ?_))
       · intro hc0 hl0
         have HD : Hid (validB T = true) := validB_true ⟨HRT.out, HA1.out, fun s o h => HALL.out s o h (hl0 s)⟩
         clear hl0 hc0
         go_wp2_with fail
         go_ret
         exact ⟨by rw [HD.out] <;> rfl, HB.out⟩
       · intro s o w5 cnt1 hls hTs hrg1 hlt1 hg1 hs1 hen
         have hk1 := kp_one hg1
         clear hs1
         have hb1 : Below w.heap.size w w5 := HB.out.trans (hk1.below hsz2 fun k e => by rw [e]; exact hsz)
         have hob := (HO.out s o hTs).2.read hb1
         have HWO := Lib.hid (HO.out s o hTs).1
         have hsl := HLN.out s o hTs
         obtain ⟨vk, ⟨vl, vb, vo, ve, vm, hV, ⟨Al, cl, rfl, -⟩, ⟨Ab, cb, rfl, -⟩, ⟨Ao, co, rfl, -⟩, ⟨Ae, ce, rfl, -⟩, ⟨Am, cm, rfl, -⟩⟩, ⟨Ak, ck, rfl, -⟩⟩ := id hob
         obtain ⟨vs, hvs⟩ : ∃ v, v = V s := ⟨_, rfl⟩
         rw [← hvs] at hob hV hen
         have R16 : Hid (∀ W, Below w5.heap.size w5 W → Calls Tryz.prog 16 #[vs] W (RetB W (.int .i64 (uses o)))) := fun W hW => uses_any (hob.read hW) HWO.out (HA1.out s o hTs).kids
         have R120 : Hid (∀ W A c p, Below w5.heap.size w5 W → Pa.PL W A c p → p.length ≤ 10000000 → Calls Tryz.prog 120 #[.pointer (some ⟨t, 0, none⟩), .slice A p.length c, vs] W (RetB W (.bool (decide (HoldsP (atP T) p o))))) := fun W A c p hW hp hpl => holdsKids_any (HE.out.on (next_below hb1 hW)) (HG.out.on (next_below hb1 hW)) hp hpl (hob.read hW) HWO.out
         have R28 : Hid (∀ W A c p, Below w5.heap.size w5 W → Pa.PL W A c p → p.length ≤ 10000000 → Calls Tryz.prog 28 #[.pointer (some ⟨t, 0, none⟩), .slice A p.length c] W (RetB W (.int .i64 (quotaP (atP T) p)))) := fun W A c p hW hp hpl => quota_any (HE.out.on (next_below hb1 hW)) (HG.out.on (next_below hb1 hW)) hp hpl
         have HMS : Hid (cnt = wr.rangeLeft bm Wo.heap.size) := HRG.out.lt.2.symm
         subst hV
         have h86 : ∀ W, Below w5.heap.size w5 W → Calls Tryz.prog 86 #[.string (str s)] W (Pa.RetParse W s) := fun W hW => Pa.parse_any (HE.out.on (next_below hb1 hW)) (by omega)
         obtain ⟨cx, hcx⟩ : ∃ cs : Array Value, cs = #[.int .i64 o.kind, .slice Al o.lab.length cl, .slice Ak o.kids.length ck, .int .i64 o.next, .slice Ab o.bytes.length cb, .slice Ao o.own.length co, .int .i64 o.cats, .slice Ae o.entry.length ce, .int .i64 o.ring, .slice Am o.maps.length cm] := ⟨_, rfl⟩
         have A6 : Hid (Below w5.heap.size w5 (w5.alloc (.cells cx 29))) := (Below.refl _ _).alloc (Nat.le_refl _) _
         have X6 := Lib.hid (BoxAt.new w5 cx 29)
         have CX := Lib.hid hcx
         have h86b := h86 _ A6.out
         rw [hcx] at h86b
         have H86 := Lib.hid h86b
         have HB1 := Lib.hid hb1
         have HTS := Lib.hid hTs
         have HLS := Lib.hid hls
         have HR1 := Lib.hid hrg1
         clear hk1 hb1 hob hvs hls hTs hrg1 hg1 hcx h86 h86b hsl
         go_wp2_with fail
         refine H86.out.mono ?_
         rintro e w6 ⟨hb6, h6⟩
         rw [← CX.out] at hb6
         have A7 := Lib.hid (next_below A6.out hb6)
         have x7 := X6.out.on hb6
         rw [CX.out] at x7
         obtain ⟨q0, q1, q2, q3, q4, q5, q6, q7, q8, q9⟩ := box10 x7
         have X7x := Lib.hid x7
         clear hb6 H86 x7
         rcases h6 with ⟨p, vp, hip, rfl, hr6⟩ | ⟨hno, rfl⟩
         · have hpok := hip.1
           obtain ⟨Ap, cp, rfl, hpl⟩ := hr6.pl hpok.wide
           have hpll : p.length ≤ 10000000 := by have := hpok.1; omega
           have J16 := Lib.hid (R16.out _ A7.out)
           have HPL := Lib.hid hpl
           have HIP := Lib.hid hip
           obtain ⟨U, hU⟩ : ∃ U, U = uses o := ⟨_, rfl⟩
           obtain ⟨Q, hQ⟩ : ∃ Q, Q = quotaP (atP T) p := ⟨_, rfl⟩
           have HUQ := Lib.hid (⟨hU, hQ⟩ : U = uses o ∧ Q = quotaP (atP T) p)
           have J28 : Hid (∀ W, Below w6.heap.size w6 W → Calls Tryz.prog 28 #[.pointer (some ⟨t, 0, none⟩), .slice Ap p.length cp] W (RetB W (.int .i64 Q))) := fun W hW => by
             rw [hQ]
             exact R28.out W Ap cp p (next_below A7.out hW) (HPL.out.on hW) hpll
           rw [← hU] at J16
           have J120 : Hid (∀ W, Below w6.heap.size w6 W → Calls Tryz.prog 120 #[.pointer (some ⟨t, 0, none⟩), .slice Ap p.length cp, .agg #[.int .i64 o.kind, .slice Al o.lab.length cl, .slice Ak o.kids.length ck, .int .i64 o.next, .slice Ab o.bytes.length cb, .slice Ao o.own.length co, .int .i64 o.cats, .slice Ae o.entry.length ce, .int .i64 o.ring, .slice Am o.maps.length cm]] W (RetB W (.bool (decide (HoldsP (atP T) p o))))) := fun W hW => R120.out W Ap cp p (next_below A7.out hW) (HPL.out.on hW) hpll
           clear hpl hip hr6 hU hQ hpok
           by_cases hu : Q < U
           · have HD : Hid (validB T = false) := validB_false fun h => by
               obtain ⟨p', hp', hle, _⟩ := h.fits s o HTS.out
               rw [hp'.one HIP.out, ← HUQ.out.1, ← HUQ.out.2] at hle
               omega
             go_wp2_with (first
               | (go_at_call 28; refine (J28.out _ D8.out).mono ?_; rintro e w9 ⟨rfl, hb9⟩; have D9 := Lib.hid (next_below D8.out hb9); clear hb9)
               | (go_at_call 16; refine J16.out.mono ?_; rintro e w8 ⟨rfl, hb8⟩; have D8 := Lib.hid hb8; clear hb8))
             go_ret
             exact ⟨by rw [HD.out] <;> rfl, next_below (next_below HB1.out A7.out) D9.out⟩
           · by_cases hh : HoldsP (atP T) p o
             · rw [decide_eq_true hh] at J120
               have HGD : Hid (∃ p, Pa.IsPath s p ∧ uses o ≤ quotaP (atP T) p ∧ HoldsP (atP T) p o) := ⟨p, HIP.out, by rw [← HUQ.out.1, ← HUQ.out.2]; omega, hh⟩
               clear hh
               go_wp2_with (first
                | (go_at_call 120; refine (J120.out _ D9.out).mono ?_; rintro e w10 ⟨rfl, hb10⟩; have D10 := Lib.hid (next_below D9.out hb10); clear hb10)
                | (go_at_call 28; refine (J28.out _ D8.out).mono ?_; rintro e w9 ⟨rfl, hb9⟩; have D9 := Lib.hid (next_below D8.out hb9); have x9 := X7x.out.on D9.out; clear q0 q1 q2 q3 q4 q5 q6 q7 q8 q9; obtain ⟨q0, q1, q2, q3, q4, q5, q6, q7, q8, q9⟩ := box10 x9; clear hb9 x9)
                | (go_at_call 16; refine J16.out.mono ?_; rintro e w8 ⟨rfl, hb8⟩; have D8 := Lib.hid hb8; clear hb8))
               have R10 := Lib.hid ((HR1.out.on A7.out).on D10.out)
               have B10 := Lib.hid (next_below (next_below HB1.out A7.out) D10.out)
               have hms := HMS.out
               go_roundw
               case rel =>
                refine ⟨_, cnt1, R10.out, fun x y hx hl => ?_, B10.out⟩
                by_cases e : x = s
                · subst e
                  rw [HTS.out] at hx
                  cases hx
                  exact HGD.out
                · exact HALL.out x y hx (by simpa [e] using hl)
               case measure => rw [R10.out.lt.2, ← hms]; exact hlt1
             · rw [decide_eq_false hh] at J120
               have HD : Hid (validB T = false) := validB_false fun h => by
                obtain ⟨p', hp', _, h3⟩ := h.fits s o HTS.out
                rw [hp'.one HIP.out] at h3
                exact hh h3
               clear hh
               go_wp2_with (first
                | (go_at_call 120; refine (J120.out _ D9.out).mono ?_; rintro e w10 ⟨rfl, hb10⟩; have D10 := Lib.hid (next_below D9.out hb10); clear hb10)
                | (go_at_call 28; refine (J28.out _ D8.out).mono ?_; rintro e w9 ⟨rfl, hb9⟩; have D9 := Lib.hid (next_below D8.out hb9); have x9 := X7x.out.on D9.out; clear q0 q1 q2 q3 q4 q5 q6 q7 q8 q9; obtain ⟨q0, q1, q2, q3, q4, q5, q6, q7, q8, q9⟩ := box10 x9; clear hb9 x9)
                | (go_at_call 16; refine J16.out.mono ?_; rintro e w8 ⟨rfl, hb8⟩; have D8 := Lib.hid hb8; clear hb8))
               go_ret
               exact ⟨by rw [HD.out] <;> rfl, next_below (next_below HB1.out A7.out) D10.out⟩
         · have HD : Hid (validB T = false) := validB_false fun h => by
             obtain ⟨p, hp, _⟩ := h.fits s o HTS.out
             exact hno p hp
           clear hno
           go_wp2_with fail
           go_ret
           exact ⟨by rw [HD.out] <;> rfl, next_below HB1.out A7.out⟩
   · intro s o w5 cnt1 hls hTs hrg1 hlt1 hg1 hs1 hen
     have hk1 := kp_one hg1
     clear hs1
     have hb1 : Below w.heap.size w w5 := HB.out.trans (hk1.below hsz fun k e => by rw [e]; exact hr1w)
     have hob := (HO.out s o hTs).2.read hb1
     have HWO := Lib.hid (HO.out s o hTs).1
     obtain ⟨vk, ⟨vl, vb, vo, ve, vm, hV, ⟨Al, cl, rfl, -⟩, ⟨Ab, cb, rfl, -⟩, ⟨Ao, co, rfl, -⟩, ⟨Ae, ce, rfl, -⟩, ⟨Am, cm, rfl, -⟩⟩, ⟨Ak, ck, rfl, -⟩⟩ := id hob
     obtain ⟨vs, hvs⟩ : ∃ v, v = V s := ⟨_, rfl⟩
     rw [← hvs] at hob hV hen
     have R14 : Hid (∀ O, Calls Tryz.prog 14 #[vs] (w5.alloc O) (RetB (w5.alloc O) (.bool (decide (ObOk o))))) := fun O => by
       have hal := (Below.refl w5.heap.size w5).alloc (Nat.le_refl _) O
       exact right_any9 (HE.out.on (next_below hb1 hal)) (hob.read hal) HWO.out
     have HMS : Hid (cnt = wr.rangeLeft bm r1) := HRG.out.lt.2.symm
     have B5 : Hid (∀ O, Below w.heap.size w (w5.alloc O)) := fun O => next_below hb1 ((Below.refl _ _).alloc (Nat.le_refl _) O)
     have R5 : Hid (∀ O, RngT (w5.alloc O) bm r1 n T V _ cnt1) := fun O => hrg1.on ((Below.refl _ _).alloc (Nat.le_refl _) O)
     subst hV
     have HTS := Lib.hid hTs
     clear hk1 hb1 hob hvs hls hTs hrg1 hg1
     by_cases hok : ObOk o
     · rw [decide_eq_true hok] at R14
       have HOK := Lib.hid hok
       clear hok
       go_wp2_with (first | (go_at_call 14; refine (R14.out _).mono ?_; rintro e w6 ⟨rfl, hb6⟩))
       have R6 := Lib.hid ((R5.out _).on hb6)
       have B6 := Lib.hid (next_below (B5.out _) hb6)
       have hms := HMS.out
       clear hb6
       go_roundw
       case rel =>
         refine ⟨_, cnt1, R6.out, fun x y hx hl => ?_, B6.out⟩
         by_cases e : x = s
         · subst e
           rw [HTS.out] at hx
           cases hx
           exact HOK.out
         · exact HALL.out x y hx (by simpa [e] using hl)
       case measure => rw [R6.out.lt.2, ← hms]; exact hlt1
     · rw [decide_eq_false hok] at R14
       have HD : Hid (validB T = false) := validB_false fun h => hok (h.ob s o HTS.out)
       clear hok
       go_wp2_with (first | (go_at_call 14; refine (R14.out _).mono ?_; rintro e w6 ⟨rfl, hb6⟩))
       go_ret
       exact ⟨by rw [HD.out] <;> rfl, next_below (B5.out _) hb6⟩
end Go.Proofs.YtgcbfggoddkhnaaGreatDoor
namespace Go.Proofs.YtgcbfggoddkhnaaGreatDoor
open Go.RowKit
def RetOf (w : World) (n : Nat) (T : TT) (e : Ending) (w' : World) : Prop :=
 (ValidT T ∧ ∃ t' F n', e = .returned (.tuple #[.pointer (some ⟨t', 0, none⟩), .int .i64 0]) ∧ n' ≤ n ∧ TabNew w' w.heap.size F t' n' T ∧ Below w.heap.size w w') ∨
  (¬ ValidT T ∧ e = .returned (.tuple #[.pointer none, .int .i64 10]) ∧ Below w.heap.size w w')
set_option maxRecDepth 100000 in
theorem of_any {w : World} {bm n : Nat} {T : TT} {V : List UInt8 → Value} (he : Env w) (hm : MapV w bm n T V) (hob : ∀ s o, T s = some o → WideO o ∧ ObjAt w No (V s) o) (hlen : ∀ s o, T s = some o → s.length ≤ 100000000000) (hn : n ≤ 10000000000) :
   Calls Tryz.prog 35 #[.map (some bm)] w (RetOf w n T) := by
 have hB0 : Below w.heap.size w (w.alloc (.cells #[.map (some bm)] 108)) := (Below.refl _ _).alloc (Nat.le_refl _) _
 have hG : GivR (w.alloc (.cells #[.map (some bm)] 108)) w.heap.size n T := ⟨bm, V, by simp, hm.on hB0, fun s o h => ⟨(hob s o h).1, (hob s o h).2.read hB0⟩⟩
 have H100 := valid_any (he.on hB0) hG hlen
 have HC : Hid (∀ W, Below (w.alloc (.cells #[.map (some bm)] 108)).heap.size (w.alloc (.cells #[.map (some bm)] 108)) W → Calls Tryz.prog 31 #[.pointer (some ⟨w.heap.size, 0, none⟩)] W fun e w' => ∃ t', e = .returned (.pointer (some ⟨t', 0, none⟩)) ∧ ∃ F n', n' ≤ n ∧ TabNew w' W.heap.size F t' n' T ∧ Below W.heap.size W w') := fun W hW => clone_new (hG.on hW) hlen hn
 have B0 := Lib.hid hB0
 by_cases hv : ValidT T
 · rw [validB_true hv] at H100
   have H100 := Lib.hid H100
   have HV := Lib.hid hv
   clear he hm hob hlen hB0 hG hv
   go_enter Tryz.func35, Tryz.ntmps35
   go_wp2_with fail
   refine H100.out.mono ?_
   rintro e w2 ⟨rfl, hb2⟩
   have H31 := Lib.hid (HC.out _ hb2)
   have B2 := Lib.hid (next_below B0.out hb2)
   clear hb2 H100
   go_wp2_with fail
   refine H31.out.mono ?_
   rintro e w3 ⟨t', rfl, F, n', h2, h3, h4⟩
   have HF := Lib.hid (⟨h2, h3, h4⟩ : n' ≤ n ∧ TabNew w3 w2.heap.size F t' n' T ∧ Below w2.heap.size w2 w3)
   clear h2 h3 h4 H31
   go_wp2_with fail
   go_ret2
   exact .inl ⟨HV.out, t', F, n', rfl, HF.out.1, HF.out.2.1.less B2.out.size, next_below B2.out HF.out.2.2⟩
 · rw [validB_false hv] at H100
   have H100 := Lib.hid H100
   have HV := Lib.hid hv
   clear he hm hob hlen hB0 hG hv
   go_enter Tryz.func35, Tryz.ntmps35
   go_wp2_with fail
   refine H100.out.mono ?_
   rintro e w2 ⟨rfl, hb2⟩
   have B2 := Lib.hid (next_below B0.out hb2)
   clear hb2 H100
   go_wp2_with fail
   go_ret2
   exact .inr ⟨HV.out, rfl, B2.out⟩
theorem validT_of {T : TT} {L : Tab} (hI : IsT T L) (hL : ValT L) : ValidT T where
 root := by
  obtain ⟨r, h1, h2⟩ := hL.root
  exact ⟨r, by rw [hI.at']; exact h1, h2⟩
 ob := fun s o h => by
  obtain ⟨p, rfl⟩ := hI.key s o h
  rw [hI.at'] at h
  exact hL.obAt h
 fits := fun s o h => by
  obtain ⟨p, rfl⟩ := hI.key s o h
  rw [hI.at'] at h
  refine ⟨p, ⟨hL.pathAt h, rfl⟩, ?_, ?_⟩
  · rw [hI.atP]; exact hL.fits _ (fnd_mem h)
  · rw [hI.atP]; exact hL.holds _ (fnd_mem h)
theorem valT_of {T : TT} {L : Tab} (hI : IsT T L) (hA : Asc L) (h : ValidT T) : ValT L where
 asc := hA
 root := by
  obtain ⟨r, h1, h2⟩ := h.root
  exact ⟨r, by rw [← hI.at']; exact h1, h2⟩
 path := fun x hx => by
  obtain ⟨p, hp, _⟩ := h.fits (Pa.zText x.1) x.2 (by rw [hI.at']; exact fnd_of hA hx)
  rw [zText_inj hp.2]
  exact hp.1
 ob := fun x hx => h.ob (Pa.zText x.1) x.2 (by rw [hI.at']; exact fnd_of hA hx)
 fits := fun x hx => by
  obtain ⟨p, hp, h1, _⟩ := h.fits (Pa.zText x.1) x.2 (by rw [hI.at']; exact fnd_of hA hx)
  rw [zText_inj hp.2, ← hI.atP]
  exact h1
 holds := fun x hx => by
  obtain ⟨p, hp, _, h1⟩ := h.fits (Pa.zText x.1) x.2 (by rw [hI.at']; exact fnd_of hA hx)
  rw [zText_inj hp.2, ← hI.atP]
  exact h1
end Go.Proofs.YtgcbfggoddkhnaaGreatDoor
