/- CatsSorts walked: it answers true. -/
import Derived.Test.YtkjenigpheppjaaDoorMap
import Derived.Test.YtkjenigpheppjaaDoorN
import Derived.Test.YtkjenigpheppjaaDoorM
import Derived.Test.YtkjenigpheppjaaDoorO
import Derived.Test.YtkjenigpheppjaaDoorS
import Derived.Carry
namespace Go.Proofs.YtkjenigpheppjaaDoor
open Go.RowKit

theorem nodup_len : ∀ {R l : List (List UInt8)}, R.Nodup → (∀ x ∈ R, x ∈ l) → R.length ≤ l.length
  | [], _, _, _ => by simp
  | x :: r, l, hn, h => by
    obtain ⟨h1, h2⟩ := List.nodup_cons.1 hn
    have hx : x ∈ l := h x (by simp)
    have := nodup_len (R := r) (l := l.erase x) h2 fun y hy => (List.mem_erase_of_ne fun e => h1 (by rw [← e]; exact hy)).2 (h y (List.mem_cons_of_mem _ hy))
    rw [List.length_erase_of_mem hx] at this
    have hp : 0 < l.length := List.length_pos_of_mem hx
    simp
    omega
theorem rises_len {R l : List (List UInt8)} (hR : Rises cmpC R) (h : ∀ y ∈ R, y ∈ l) : R.length ≤ l.length :=
  nodup_len (hR.imp fun {x y} hxy e => by subst e; rw [tot_cmpC.refl] at hxy; omega) h

def TotRel (w : World) (l : List (List UInt8)) (k : Nat) (n i : Value) (wr : World) : Prop :=
  ∃ m, m + k = l.length ∧ i = .int .i64 (m : Int) ∧ (∃ z : Int, n = .int .i64 z) ∧ Below w.heap.size w wr
def PutRel (w W : World) (R : List (List UInt8)) (k : Nat) (i : Value) (wr : World) : Prop :=
  ∃ m, m + k = R.length ∧ i = .int .i64 (m : Int) ∧ SetIs wr W.heap.size m (R.take m) ∧ Below w.heap.size w wr ∧ Below W.heap.size W wr
def AskRel (w W : World) (l : List (List UInt8)) (k : Nat) (i : Value) (wr : World) : Prop :=
  ∃ m, m + k = l.length ∧ i = .int .i64 (m : Int) ∧ Below w.heap.size w wr ∧ Below W.heap.size W wr

set_option maxRecDepth 100000 in
set_option maxHeartbeats 4000000 in
theorem sorts_any (hf : ∀ W, Env W → Calls Tryd.prog 7 #[] W (Fine W)) (hs : ∀ (W : World) (A : Option Addr) (c : Nat) (l : List (List UInt8)), Env W → Strs W W.heap.size A l → (∀ x ∈ l, x.length ≤ 140737488351232) → l.length ≤ 8796093022207 → Calls Tryd.prog 16 #[.slice A l.length c] W (RetSort W l))
    {w : World} {A : Option Addr} {c : Nat} {l : List (List UInt8)} (he : Env w) (hl : Strs w w.heap.size A l) (hx : ∀ x ∈ l, x.length ≤ 140737488351232) (hn : l.length ≤ 8796093022207) :
    Calls Tryd.prog 6 #[.slice A l.length c] w (Fine w) := by
  have HE := Lib.hid he
  have HL := Lib.hid hl
  have HF := Lib.hid hf
  have HSo := Lib.hid hs
  have HX := Lib.hid hx
  clear he hl hf hs hx
  go_enter Tryd.func6, Tryd.ntmps6
  go_wp2_with fail
  refine (HF.out w HE.out).mono ?_
  rintro e w1 ⟨rfl, hb1⟩
  have B1 := Lib.hid hb1
  clear hb1
  go_wp2_with fail
  go_loopg [3, 17] l.length (fun k n i wr => TotRel w l k n i wr)
  case atStart => exact ⟨0, by simp, rfl, ⟨0, rfl⟩, B1.out⟩
  case round =>
    obtain ⟨m, hmk, hi, ⟨z, hnv⟩, hb⟩ := hrel
    subst hi hnv
    have HB := Lib.hid hb
    cases gk with
    | zero =>
      have hge : l.length ≤ m := by omega
      by_cases h15 : z > 1500
      · clear hb hmk
        go_wp2_with fail
        go_ret
        exact ⟨rfl, HB.out⟩
      · have hl15 : l.length ≤ 8796093022207 := by omega
        have HS := Lib.hid ((HL.out.below hb).more hb.size)
        have H16 := Lib.hid (HSo.out wr A c l (HE.out.on hb) HS.out HX.out (by omega))
        clear hb hmk
        go_wp2_with fail
        refine H16.out.mono ?_
        rintro e w2 ⟨hb2, A1, c1, R, rfl, hs1, hr1, hm1⟩
        have B2 := Lib.hid (HB.out.trans (hb2.mono HB.out.size))
        have S1 := Lib.hid hs1
        have X1 := Lib.hid hr1
        have X2 := Lib.hid hm1
        have hRl := rises_len hr1 (fun y hy => ((hm1 y).1 hy).1)
        have HC : Hid (∀ x ∈ R, x.length ≤ 140737488351232) := fun x hx => HX.out x ((hm1 x).1 hx).1
        have H16' := Lib.hid (HSo.out w2 A1 c1 R (HE.out.on B2.out) hs1 HC.out (by omega))
        clear hb2 hs1 hr1 hm1 H16
        go_wp2_with fail
        refine H16'.out.mono ?_
        rintro e w3 ⟨hb3, A2, c2, R2, rfl, hs2, hr2, hm2⟩
        have hR : R2 = R := rises_unique tot_cmpC hr2 X1.out (fun x => (hm2 x).trans ⟨fun h => h.1, fun h => ⟨h, ((X2.out x).1 h).2⟩⟩)
        subst hR
        have B3 := Lib.hid (B2.out.trans (hb3.mono B2.out.size))
        have T1 := Lib.hid ((S1.out.below hb3).more hb3.size)
        have T2 := Lib.hid hs2
        clear hb3 hs2 hr2 hm2 H16'
        have hmm := @run_makeMap Tryd.prog
        go_wp2_with fail
        clear hmm
        go_loopg [36] R2.length (fun k i wr => PutRel w w3 R2 k i wr)
        case atStart => exact ⟨0, by simp, rfl, SetIs.made w3, B3.out.alloc B3.out.size _, (Below.refl _ _).alloc (Nat.le_refl _) _⟩
        case round =>
          obtain ⟨m, hmk, hi, hset, hb, hb'⟩ := hrel
          subst hi
          have BB := Lib.hid hb
          have BB' := Lib.hid hb'
          have HSet := Lib.hid hset
          have EW := Lib.hid (HE.out.on hb)
          cases gk with
          | zero =>
            have hge : R2.length ≤ m := by omega
            have HS2 : Hid (SetIs wr w3.heap.size m R2) := by
              have := hset
              rwa [List.take_of_length_le hge] at this
            have hd : decide (m < R2.length) = false := by simp; omega
            clear hmk hset hb hb' HSet
            go_wp2_with fail
            try simp only [hd]
            obtain ⟨Wq, hWq⟩ : ∃ Wq, Wq = wr := ⟨_, rfl⟩
            subst hWq
            clear hge hd
            go_loopg [71] l.length (fun k i wr => AskRel w Wq l k i wr)
            case atStart => exact ⟨0, by simp, rfl, BB.out, Below.refl _ _⟩
            case round =>
              obtain ⟨mm, hmk, hi, hb, hb'⟩ := hrel
              subst hi
              have CB := Lib.hid hb
              have CB' := Lib.hid hb'
              cases gk with
              | zero =>
                have hge2 : l.length ≤ mm := by omega
                clear hmk hb hb'
                go_wp2_with fail
                go_ret
                exact ⟨rfl, CB.out⟩
              | succ j =>
                have hm : mm < l.length := by omega
                obtain ⟨x, hx⟩ : ∃ x, l[mm]? = some x := ⟨_, List.getElem?_eq_getElem hm⟩
                obtain ⟨b, o, rfl, hlt, hcells⟩ := HL.out (by omega)
                obtain ⟨S, hS⟩ : ∃ S, S = str x := ⟨_, rfl⟩
                obtain ⟨q, hq⟩ : ∃ q, q = (catOf x).isSome := ⟨_, rfl⟩
                have cx := (hb.cell (p := ⟨b, o + mm, none⟩) hlt).trans (hcells mm x hx)
                rw [← hS] at cx
                have hxl := HX.out x (List.mem_of_getElem? hx)
                have hmem := List.mem_of_getElem? hx
                have hq2 : decide (x ∈ R2) = q := by
                  rw [hq]
                  cases hc : (catOf x).isSome with
                  | true => exact decide_eq_true ((X2.out x).2 ⟨hmem, hc⟩)
                  | false => exact decide_eq_false fun h => by have := ((X2.out x).1 h).2; rw [hc] at this; cases this
                have HLk : Hid (∀ W, Below wr.heap.size wr W → (Instr.lookup 42 (.map (some w3.heap.size)) (.string S) false).run Tryd.prog W = .ok (.bool q) W) := fun W h => by
                  have := ((HS2.out.below CB'.out).below h).look (x := x) (by omega)
                  rw [hq2, ← hS] at this
                  exact this
                have H10 : Hid (∀ W, Below wr.heap.size wr W → Calls Tryd.prog 10 #[.string S] W fun e w' => e = .returned (.bool q) ∧ Below wr.heap.size wr w') := fun W h => by
                  rw [hS, hq]
                  exact (right_any ((HE.out.on CB.out).on h) hxl).mono fun e w' h2 => ⟨h2.1, h.trans (h2.2.mono h.size)⟩
                have HM := Lib.hid hmk
                clear hx hcells hmk hb hb' hS hq hq2 hmem
                go_wp2_with fail
                have lk := HLk.out _ (Below.refl _ wr).drew
                go_region_held3 (fun W => (Instr.lookup 42 (.map (some w3.heap.size)) (.string S) false).run Tryd.prog W = .ok (.bool q) W)
                  (first
                    | assumption
                    | exact HLk.out _ hbA
                    | exact HLk.out _ (Below.refl _ _).drew
                    | go_keep)
                  (first
                    | (go_at_call 10; refine (H10.out _ (Below.refl _ _).drew).mono ?_; rintro e W1 ⟨rfl, hbA⟩))
                all_goals
                  have B2' := Lib.hid (CB.out.trans (hbA.mono CB.out.size))
                  have B2'' := Lib.hid (CB'.out.trans (hbA.mono CB'.out.size))
                  clear hbA cx lk
                  go_wp2_with fail
                  go_roundg j
                  case measure => omega
                  case rel => exact ⟨mm + 1, by have := HM.out; omega, by go_num, B2'.out, B2''.out⟩
          | succ j =>
            have hm : m < R2.length := by omega
            obtain ⟨x, hx⟩ : ∃ x, R2[m]? = some x := ⟨_, List.getElem?_eq_getElem hm⟩
            obtain ⟨b1, o1, rfl, hlt1, hc1⟩ := T1.out (by omega)
            obtain ⟨b2, o2, rfl, hlt2, hc2⟩ := T2.out (by omega)
            have x1 := (hb'.cell (p := ⟨b1, o1 + m, none⟩) hlt1).trans (hc1 m x hx)
            have Q2 := Lib.hid (hc2 m x hx)
            have hxl0 := HC.out x (List.mem_of_getElem? hx)
            have hxl : x.length ≤ 140737488351232 := by omega
            have H10 := Lib.hid (right_any EW.out hxl0)
            rw [((X2.out x).1 (List.mem_of_getElem? hx)).2] at H10
            have HT : Hid (R2.take (m + 1) = R2.take m ++ [x]) := by rw [Hid, List.take_add_one, hx]; rfl
            have HM := Lib.hid hmk
            cases m with
            | zero =>
              have x1' : wr.cell? ⟨b1, o1, none⟩ = some (.string (str x)) := x1
              clear hx hc1 hc2 hmk hset hb hb' x1
              go_wp2_with fail
              refine H10.out.mono ?_
              rintro e w4 ⟨rfl, hb4⟩
              have B4 := Lib.hid (BB.out.trans (hb4.mono BB.out.size))
              have D4 := Lib.hid (BB'.out.trans (hb4.mono BB'.out.size))
              have S4 := Lib.hid (HSet.out.below hb4)
              have y2 : w4.cell? ⟨b2, o2, none⟩ = some (.string (str x)) := (D4.out.cell (p := ⟨b2, o2 + 0, none⟩) hlt2).trans Q2.out
              clear hb4 H10 x1'
              go_wp2_with (first
                | (at_mapUpdate; refine wpList_put_set rfl _ _ _ rfl w3.heap.size 0 (R2.take (0)) rfl S4.out (by omega) x hxl rfl rfl ?_))
              intro w6 hset6 hg6
              have S6 : Hid (SetIs w6 w3.heap.size (0 + 1) (R2.take (0 + 1))) := by rw [HT.out]; exact hset6
              have B6 : Hid (Below w.heap.size w w6) := B4.out.grown hg6 B4.out.size (fun k e => by cases e; exact B3.out.size)
              have D6 : Hid (Below w3.heap.size w3 w6) := D4.out.grown hg6 D4.out.size (fun k e => by cases e; exact Nat.le_refl _)
              clear hset6 hg6
              go_wp2_with fail
              go_roundg j
              case measure => omega
              case rel => exact ⟨0 + 1, by have := HM.out; omega, by go_num, S6.out, B6.out, D6.out⟩
            | succ mp =>
              obtain ⟨y, hy⟩ : ∃ y, R2[mp]? = some y := ⟨_, List.getElem?_eq_getElem (by omega)⟩
              have hyl := HC.out y (List.mem_of_getElem? hy)
              have hyx : cmpC y x = -1 := by
                obtain ⟨g1, e1⟩ := List.getElem?_eq_some_iff.1 hx
                obtain ⟨g2, e2⟩ := List.getElem?_eq_some_iff.1 hy
                rw [← e1, ← e2]
                exact List.pairwise_iff_getElem.1 X1.out mp (mp + 1) g2 g1 (by omega)
              have Y1 := Lib.hid (hc1 mp y hy)
              have H14 : Hid (∀ W, Env W → Calls Tryd.prog 14 #[.string (str y), .string (str x)] W (RetB W (.int .i64 (-1)))) := fun W h => by rw [← hyx]; exact compare_any h hyl hxl0
              have hmpI : ((mp : Int) + 1) - 1 = (mp : Int) := by omega
              clear hx hy hc1 hc2 hmk hset hb hb' hyx
              go_wp2_with fail
              refine H10.out.mono ?_
              rintro e w4 ⟨rfl, hb4⟩
              have B4 := Lib.hid (BB.out.trans (hb4.mono BB.out.size))
              have D4 := Lib.hid (BB'.out.trans (hb4.mono BB'.out.size))
              have S4 := Lib.hid (HSet.out.below hb4)
              have E4 := Lib.hid (HE.out.on B4.out)
              have y1 : w4.cell? ⟨b1, o1 + mp, none⟩ = some (.string (str y)) := (D4.out.cell (p := ⟨b1, o1 + mp, none⟩) hlt1).trans Y1.out
              clear hb4 H10 x1
              go_wp2_with fail
              refine (H14.out w4 E4.out).mono ?_
              rintro e w5 ⟨rfl, hb5⟩
              have B5 := Lib.hid (B4.out.trans (hb5.mono B4.out.size))
              have D5 := Lib.hid (D4.out.trans (hb5.mono D4.out.size))
              have S5 := Lib.hid (S4.out.below hb5)
              have y2 : w5.cell? ⟨b2, o2 + (mp + 1), none⟩ = some (.string (str x)) := (D5.out.cell (p := ⟨b2, o2 + (mp + 1), none⟩) hlt2).trans Q2.out
              clear hb5 H14 y1
              go_wp2_with (first
                | (at_mapUpdate; refine wpList_put_set rfl _ _ _ rfl w3.heap.size (mp + 1) (R2.take (mp + 1)) rfl S5.out (by omega) x hxl rfl rfl ?_))
              intro w6 hset6 hg6
              have S6 : Hid (SetIs w6 w3.heap.size (mp + 1 + 1) (R2.take (mp + 1 + 1))) := by rw [HT.out]; exact hset6
              have B6 : Hid (Below w.heap.size w w6) := B5.out.grown hg6 B5.out.size (fun k e => by cases e; exact B3.out.size)
              have D6 : Hid (Below w3.heap.size w3 w6) := D5.out.grown hg6 D5.out.size (fun k e => by cases e; exact Nat.le_refl _)
              clear hset6 hg6
              go_wp2_with fail
              go_roundg j
              case measure => omega
              case rel => exact ⟨mp + 1 + 1, by have := HM.out; omega, by go_num, S6.out, B6.out, D6.out⟩
    | succ j =>
      have hm : m < l.length := by omega
      obtain ⟨x, hx⟩ : ∃ x, l[m]? = some x := ⟨_, List.getElem?_eq_getElem hm⟩
      obtain ⟨b, o, rfl, hlt, hcells⟩ := HL.out (by omega)
      obtain ⟨S, hS⟩ : ∃ S, S = str x := ⟨_, rfl⟩
      have cx := (hb.cell (p := ⟨b, o + m, none⟩) hlt).trans (hcells m x hx)
      rw [← hS] at cx
      have hsz : S.size = x.length := by rw [hS, str_size]
      have hxl := HX.out x (List.mem_of_getElem? hx)
      have HM := Lib.hid hmk
      clear hx hcells hmk hb hS
      go_wp2_with fail
      go_roundg j
      case measure => omega
      case rel => exact ⟨m + 1, by have := HM.out; omega, by go_num, ⟨_, rfl⟩, HB.out⟩
end Go.Proofs.YtkjenigpheppjaaDoor
