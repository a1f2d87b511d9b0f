/- Lemmas for the law: Ya, Td, QPt, Zl, Rv. -/
import Derived.Test.YtgcbfggoddkhnaaGreatDoorM12
import Derived.Test.YtgcbfggoddkhnaaGreatDoorM05
import Derived.RegionCalls
import Derived.IntWalk
import Derived.Deep.RegionHeld3
import Derived.StillTailTactics
import Derived.Test.YtgcbfggoddkhnaaGreatDoorM06
namespace Go.Proofs.YtgcbfggoddkhnaaGreatDoor
open Go.RowKit
structure TabIs (w : World) (F : Nat → Prop) (t bm n : Nat) (T : TT) (V K : List UInt8 → Value) : Prop where
 var : w.cell? ⟨t, 0, none⟩ = some (.map (some bm))
 map : MapV w bm n T V
 wide : ∀ s o, T s = some o → WideO o
 ob : ∀ s o, T s = some o → ObjK w F (V s) (K s) o
 row : ∀ s o, T s = some o → w.ownsRow 0 85 3 (K s) o.kids.length (kidCells o.kids)
 isF : F bm
 inF : ∀ s o, T s = some o → ∀ b, (K s).ownBlock = some b → F b
 ltF : ∀ b, F b → b < w.heap.size
 dist : ∀ s s' o o', T s = some o → T s' = some o' → s ≠ s' → ∀ b, (K s).ownBlock = some b → (K s').ownBlock ≠ some b
 notF : ¬ F t
theorem own_block {w : World} {base : Nat} {e : TypeId} {size : Nat} {v : Value} {n : Nat} {xs : List Value} (h : w.ownsRow base e size v n xs) {b : Nat} (hb : v.ownBlock = some b) : base ≤ b ∧ b < w.heap.size ∧ ∃ cur, w.heap[b]? = some (.cells cur e (0, 0)) := by
 rcases h.2 with ⟨rfl, _⟩ | ⟨g, cap, cur, rfl, hb0, hh, _⟩
 · simp [Value.ownBlock] at hb
 · simp [Value.ownBlock] at hb
   subst hb
   exact ⟨hb0, (Array.getElem?_eq_some_iff.1 hh).1, cur, hh⟩
theorem MapV.not_row {w : World} {b n : Nat} {T : TT} {V : List UInt8 → Value} (h : MapV w b n T V) {base : Nat} {e : TypeId} {size : Nat} {v : Value} {m : Nat} {xs : List Value} (hr : w.ownsRow base e size v m xs) : v.ownBlock ≠ some b := fun hb => by
 obtain ⟨D, ⟨es, clock, h1, _⟩, _⟩ := h
 obtain ⟨_, _, cur, h2⟩ := own_block hr hb
 rw [h1] at h2
 cases h2
theorem TabIs.tlt {w : World} {F : Nat → Prop} {t bm n : Nat} {T : TT} {V K : List UInt8 → Value} (h : TabIs w F t bm n T V K) : t < w.heap.size := World.block_lt_of_cell? w _ h.var
theorem TabIs.read {w w' : World} {F : Nat → Prop} {t bm n : Nat} {T : TT} {V K : List UInt8 → Value} (h : TabIs w F t bm n T V K) (hb : Below w.heap.size w w') : GivR w' t n T :=
 ⟨bm, V, (hb.cell (p := ⟨t, 0, none⟩) h.tlt).trans h.var, h.map.on hb, fun s o ho => ⟨h.wide s o ho, K s, (h.ob s o ho).on hb (fun _ _ h => h.elim), (slv_row (h.row s o ho)).on hb (fun _ _ h => h.elim)⟩⟩
theorem TabIs.kp {S : Nat → Prop} {w w' : World} {F : Nat → Prop} {t bm n : Nat} {T : TT} {V K : List UInt8 → Value} (h : TabIs w F t bm n T V K) (hk : Tp.Kp S w w') (hS : ∀ b, S b → w.heap.size ≤ b) : TabIs w' F t bm n T V K where
 var := hk.cell h.var fun e => by have := hS _ e; have := h.tlt; simp at *; omega
 map := h.map.kp hk fun e => by have := hS _ e; have := h.map.lt; omega
 wide := h.wide
 ob := fun s o ho => (h.ob s o ho).kp hk (fun b hb e => by have := hS _ e; omega) (fun _ _ h => h)
 row := fun s o ho => own_kp (h.row s o ho) hk fun b hb e => by have := hS _ e; have := (own_block (h.row s o ho) hb).2.1; omega
 isF := h.isF
 inF := h.inF
 ltF := fun b hb => Nat.lt_of_lt_of_le (h.ltF b hb) hk.size
 dist := h.dist
 notF := h.notF
theorem TabIs.on {w w' : World} {F : Nat → Prop} {t bm n : Nat} {T : TT} {V K : List UInt8 → Value} (h : TabIs w F t bm n T V K) (hb : Below w.heap.size w w') : TabIs w' F t bm n T V K :=
 h.kp (Tp.Kp.of_below hb fun _ => False) fun _ h => h.elim
theorem TabIs.more {w : World} {F : Nat → Prop} {t bm n m : Nat} {T : TT} {V K : List UInt8 → Value} (h : TabIs w F t bm n T V K) (hn : n ≤ m) : TabIs w F t bm m T V K := { h with map := h.map.more hn }
def Stp (w : World) (F : Nat → Prop) (w' : World) (F' : Nat → Prop) : Prop := Tp.Kp F w w' ∧ ∀ b, F' b → F b ∨ w.heap.size ≤ b
theorem Stp.of_below {w w' : World} {F : Nat → Prop} (h : Below w.heap.size w w') : Stp w F w' F := ⟨Tp.Kp.of_below h F, fun _ h => .inl h⟩
theorem Stp.trans {w w1 w2 : World} {F F1 F2 : Nat → Prop} (h : Stp w F w1 F1) (k : Stp w1 F1 w2 F2) : Stp w F w2 F2 := by
 refine ⟨h.1.andThen k.1 fun i hi h1 => (h.2 i h1).resolve_right (by omega), fun b hb => ?_⟩
 rcases k.2 b hb with h1 | h1
 · exact h.2 b h1
 · exact .inr (Nat.le_trans h.1.size h1)
def TabAt (w : World) (F : Nat → Prop) (t n : Nat) (T : TT) : Prop := ∃ bm V K, TabIs w F t bm n T V K
theorem TabAt.read {w w' : World} {F : Nat → Prop} {t n : Nat} {T : TT} (h : TabAt w F t n T) (hb : Below w.heap.size w w') : GivR w' t n T := by
 obtain ⟨bm, V, K, h⟩ := h
 exact h.read hb
theorem TabAt.on {w w' : World} {F : Nat → Prop} {t n : Nat} {T : TT} (h : TabAt w F t n T) (hb : Below w.heap.size w w') : TabAt w' F t n T := by
 obtain ⟨bm, V, K, h⟩ := h
 exact ⟨bm, V, K, h.on hb⟩
theorem TabAt.more {w : World} {F : Nat → Prop} {t n m : Nat} {T : TT} (h : TabAt w F t n T) (hn : n ≤ m) : TabAt w F t m T := by
 obtain ⟨bm, V, K, h⟩ := h
 exact ⟨bm, V, K, h.more hn⟩
set_option maxRecDepth 100000 in
theorem TabIs.put {w : World} {F : Nat → Prop} {t bm n : Nat} {T : TT} {V K : List UInt8 → Value} (h : TabIs w F t bm n T V K) (hn : n ≤ 100000000000) {s : List UInt8} (hs : s.length ≤ 100000000000) {v vk : Value} {o : Ob} (hw : WideO o)
   (hob : ObjK w (fun x => F x ∨ vk.ownBlock = some x) v vk o) (hrow : w.ownsRow 0 85 3 vk o.kids.length (kidCells o.kids)) (hnew : ∀ b, vk.ownBlock = some b → ¬ F b ∨ ∃ o', T s = some o' ∧ (K s).ownBlock = some b)
   (hold : ∀ s' o', T s' = some o' → s' ≠ s → ObjK w (fun x => F x ∨ vk.ownBlock = some x) (V s') (K s') o') (ht : vk.ownBlock ≠ some t) :
   TabIs (putW bm s v w) (fun x => F x ∨ vk.ownBlock = some x) t bm (n + 1) (updT T s o) (updV V s v) (updV K s vk) ∧ Tp.Kp (fun b => b = bm) w (putW bm s v w) := by
 obtain ⟨_, hm, hg⟩ := h.map.put hn hs v
 clear hn hs
 have hkp : Tp.Kp (fun b => b = bm) w (putW bm s v w) := (Tp.Kp.refl (fun b => b = bm) w).grown hg fun k e _ => by injection e with e; exact e.symm
 have hSF : ∀ b, b < w.heap.size → b = bm → F b ∨ vk.ownBlock = some b := fun b _ e => .inl (by rw [e]; exact h.isF)
 refine ⟨?_, hkp⟩
 refine { var := hkp.cell h.var (fun e => ?_), map := hm o, wide := fun s' o' h' => ?_, ob := fun s' o' h' => ?_, row := fun s' o' h' => ?_, isF := .inl h.isF, inF := fun s' o' h' b hb => ?_, ltF := fun b hb => ?_, dist := fun s1 s2 o1 o2 h1 h2 hne b hb => ?_, notF := ?_ }
 · exact h.map.ne h.var e
 · unfold updT at h'
   split at h'
   · injection h' with h'; subst h'; exact hw
   · exact h.wide s' o' h'
 · unfold updT at h'
   unfold updV
   split at h'
   · rename_i e
     injection h' with h'; subst h' e
     rw [if_pos rfl, if_pos rfl]
     exact hob.kp hkp hSF (fun _ _ h => h)
   · rename_i e
     rw [if_neg e, if_neg e]
     exact (hold s' o' h' e).kp hkp hSF (fun _ _ h => h)
 · unfold updT at h'
   unfold updV
   split at h'
   · rename_i e
     injection h' with h'; subst h' e
     rw [if_pos rfl]
     exact own_kp hrow hkp fun b hb e => h.map.not_row hrow (by rw [hb, e])
   · rename_i e
     rw [if_neg e]
     exact own_kp (h.row s' o' h') hkp fun b hb e => h.map.not_row (h.row s' o' h') (by rw [hb, e])
 · unfold updT at h'
   unfold updV at hb
   split at h'
   · rename_i e
     subst e
     rw [if_pos rfl] at hb
     exact .inr hb
   · rename_i e
     rw [if_neg e] at hb
     exact .inl (h.inF s' o' h' b hb)
 · refine Nat.lt_of_lt_of_le ?_ hkp.size
   rcases hb with hb | hb
   · exact h.ltF b hb
   · exact (own_block hrow hb).2.1
 · unfold updT at h1 h2
   unfold updV at hb ⊢
   split at h1
   · rename_i e1
     subst e1
     have e2 : ¬ s2 = s1 := fun e => hne e.symm
     rw [if_neg e2] at h2 ⊢
     rw [if_pos rfl] at hb
     intro hb2
     rcases hnew b hb with h3 | ⟨o', h3, h4⟩
     · exact h3 (h.inF s2 o2 h2 b hb2)
     · exact h.dist s1 s2 o' o2 h3 h2 hne b h4 hb2
   · rename_i e1
     rw [if_neg e1] at hb
     split at h2
     · rename_i e2
       subst e2
       rw [if_pos rfl]
       intro hb2
       rcases hnew b hb2 with h3 | ⟨o', h3, h4⟩
       · exact h3 (h.inF s1 o1 h1 b hb)
       · exact h.dist s1 s2 o1 o' h1 h3 hne b hb h4
     · rename_i e2
       rw [if_neg e2]
       exact h.dist s1 s2 o1 o2 h1 h2 hne b hb
 · rintro (hb | hb)
   · exact h.notF hb
   · exact ht hb
end Go.Proofs.YtgcbfggoddkhnaaGreatDoor
namespace Go.Proofs.YtgcbfggoddkhnaaGreatDoor.Tp
open Go.RowKit
def RetB (w : World) (v : Value) (e : Ending) (w' : World) : Prop := e = .returned v ∧ Below w.heap.size w w'
set_option maxRecDepth 100000 in
theorem one_laid (w : World) (c : Nat) : Bts (w.alloc (.cells #[.int .u8 (c : Int)] 5)) (w.alloc (.cells #[.int .u8 (c : Int)] 5)).heap.size (some ⟨w.heap.size, 0, none⟩) [c] := by
 intro _
 refine ⟨w.heap.size, 0, rfl, by simp, fun k d hk => ?_⟩
 rw [cell_of_row _ _ _ _ _ _ (heap_alloc_new w _), Nat.zero_add]
 match k, hk with
 | 0, hk => simp at hk; subst hk; rfl
 | k + 1, hk => simp at hk
set_option maxRecDepth 100000 in
theorem one_conv (w : World) (c : Nat) (z : Int) (hz : z = (c : Int)) : (convert 25 9 (.slice (some ⟨w.heap.size, 0, none⟩) 1 1)).run Tryz.prog (w.alloc (.cells #[.int .u8 z] 5)) = .ok (.string (str [c])) (w.alloc (.cells #[.int .u8 z] 5)) := by
 subst hz
 exact conv_str (one_laid w c) 1
set_option maxRecDepth 100000 in
theorem one_conv_drew (w : World) (c : Nat) : (convert 25 9 (.slice (some ⟨w.heap.size, 0, none⟩) 1 1)).run Tryz.prog (w.alloc (.cells #[.int .u8 (c : Int)] 5)).drew = .ok (.string (str [c])) (w.alloc (.cells #[.int .u8 (c : Int)] 5)).drew :=
 conv_str (w := (w.alloc (.cells #[.int .u8 (c : Int)] 5)).drew) (one_laid w c) 1
set_option maxRecDepth 100000 in
theorem one_conv_below {w w' : World} {c B : Nat} (hb : Below B (w.alloc (.cells #[.int .u8 (c : Int)] 5)).drew w') (hB : w.heap.size < B) : (convert 25 9 (.slice (some ⟨w.heap.size, 0, none⟩) 1 1)).run Tryz.prog w' = .ok (.string (str [c])) w' := by
 have h : Bts (w.alloc (.cells #[.int .u8 (c : Int)] 5)).drew (w.heap.size + 1) (some ⟨w.heap.size, 0, none⟩) [c] := by
  have := one_laid w c
  rw [World.size_alloc] at this
  exact this
 exact conv_str (h.below (hb.mono hB)) 1
set_option maxRecDepth 100000 in
theorem enc_str_size (n : Nat) (h : n ≤ 4611686018427387903) : (str (enc n)).size ≤ 9 := by
 rw [str_size]
 exact enc_nine (by omega)
set_option maxRecDepth 100000 in
theorem ref_number (n : Nat) : n ≤ 4611686018427387903 → ∀ w : World, Calls Tryz.prog 101 #[.int .i64 (n : Int)] w (RetB w (.string (str (enc n)))) := by
 induction n using Nat.strongRecOn with
 | ind n ih =>
  intro hn w
  by_cases h : n < 128
  · have q1 := one_conv w n (n : Int) rfl
    rw [enc_small h]
    go_enter Tryz.func101, Tryz.ntmps101
    go_wp2_with fail
    go_ret
    exact ⟨rfl, (Below.refl _ _).alloc (Nat.le_refl _) _⟩
  · have H := Lib.hid (ih (n / 128) (by omega) (by omega))
    have hsz := enc_str_size (n / 128) (by omega)
    obtain ⟨r, hr⟩ : ∃ r : Nat, r = n % 128 := ⟨_, rfl⟩
    obtain ⟨c, hc⟩ : ∃ c : Nat, c = 128 + r := ⟨_, rfl⟩
    obtain ⟨m, hm⟩ : ∃ m : Nat, m = n / 128 := ⟨_, rfl⟩
    have h128 : 128 ≤ n := by omega
    have t1 : (n : Int).tmod 128 = (r : Int) := by rw [Int.tmod_eq_emod_of_nonneg (by omega)]; omega
    have t2 : IntKind.i64.wrap (128 + (r : Int)) = (c : Int) := by rw [show (128 + (r : Int)) = (c : Int) by omega]; exact IntWalk.i64_in _ (by omega)
    have t3 : IntKind.u8.wrap (c : Int) = (c : Int) := by simp [IntKind.wrap, IntKind.bits, IntKind.signed]; omega
    have t4 : (n : Int) / 128 = (m : Int) := by omega
    have HE : Hid (str (enc n) = str [c] ++ str (enc m)) := by rw [enc_big (by omega), str_append, hc, hr, hm]; rfl
    rw [← hm] at H hsz
    obtain ⟨s, hs⟩ : ∃ s, s = str (enc m) := ⟨_, rfl⟩
    rw [← hs] at H HE hsz
    have q1 := fun W : World => one_conv W c (c : Int) rfl
    have q2 := fun W : World => one_conv_drew W c
    have t5 : IntKind.i64.wrap (m : Int) = (m : Int) := IntWalk.i64_in _ (by omega)
    have q3 : ∀ W : World, (Op.stringOp .add (str [c]) s).run Tryz.prog W = .ok (.string (str [c] ++ s)) W := fun W => add_str W (by rw [str_size]; simp) (by omega)
    clear ih hs h hc hr hm
    go_enter Tryz.func101, Tryz.ntmps101
    go_wp2_with fail
    go_region_with (go_at_call 101; refine (H.out _).mono ?_; rintro e w' ⟨rfl, hb⟩; try (have q5 := one_conv_below hb (by simp)))
    all_goals
     first
      | have HB : Hid (Below w.heap.size w w') := ((Below.refl _ _).alloc (Nat.le_refl _) (.cells #[.int .u8 (c : Int)] 5)).drew.trans (hb.mono (by simp))
      | have HB : Hid (Below w.heap.size w w') := (Below.refl _ _).drew.trans hb
     clear hb q1 q2 q3
     go_wp2_with fail
     go_ret
     first
      | exact ⟨by rw [HE.out]; rfl, HB.out⟩
      | exact ⟨by rw [HE.out]; rfl, HB.out.alloc HB.out.size _⟩
end Go.Proofs.YtgcbfggoddkhnaaGreatDoor.Tp
namespace Go.Proofs.YtgcbfggoddkhnaaGreatDoor.Pa
open Go.RowKit
def PenB (w : World) (B g : Nat) (l : List Nat) : Prop := ∃ k, Tp.PenAt w g k l ∧ B ≤ g ∧ ∀ j, k = some j → B ≤ j
theorem PenB.step {w w' : World} {B g : Nat} {k : Option Nat} {l' : List Nat} (hg : B ≤ g) (hk : ∀ j, k = some j → B ≤ j) (hs : B ≤ w.heap.size) (h : Tp.Wrote w g k l' w') : PenB w' B g l' ∧ Below B w w' := by
 obtain ⟨k0, h1, h2, h3⟩ := h
 refine ⟨⟨k0, h1, hg, fun j hj => ?_⟩, h3.below hs fun i hi => ?_⟩
 · rcases h2 with h | ⟨i, h, hi⟩
   · exact hk j (h.symm.trans hj)
   · rw [h] at hj
     injection hj with hj
     omega
 · rcases hi with rfl | hi
   · exact hg
   · exact hk i hi
theorem PenB.kept {w w' : World} {B g : Nat} {l : List Nat} (h : PenB w B g l) (hb : Below w.heap.size w w') : PenB w' B g l := by
 obtain ⟨k, h1, h2, h3⟩ := h
 exact ⟨k, h1.kp (Tp.Kp.of_below hb (fun _ => False)) (fun h => h) (fun _ _ h => h), h2, h3⟩
def PutRel (w : World) (B g : Nat) (l : List Int) (k : Nat) (i : Value) (wr : World) : Prop :=
 ∃ m, m + k = l.length ∧ i = .int .i64 (m : Int) ∧ PenB wr B g (Tp.enc l.length ++ (l.take m).flatMap encZ) ∧ Below B w wr
def RpRel (w : World) (l : List Int) (k : Nat) (s i : Value) (wr : World) : Prop :=
 ∃ m, m + k = l.length ∧ i = .int .i64 (m : Int) ∧ s = .string (Tp.str (Tp.enc l.length ++ (l.take m).flatMap encZ)) ∧ Below w.heap.size w wr
end Go.Proofs.YtgcbfggoddkhnaaGreatDoor.Pa
namespace Go.Proofs.YtgcbfggoddkhnaaGreatDoor
open Go.RowKit
open Pa (encZ zBytes)
def PenF (w : World) (F : Nat → Prop) (g : Nat) (l : List Nat) : Prop := ∃ k, Tp.PenAt w g k l ∧ F g ∧ (∀ j, k = some j → F j) ∧ ∀ b, F b → b < w.heap.size
theorem PenF.on {w w' : World} {F : Nat → Prop} {g : Nat} {l : List Nat} (h : PenF w F g l) (hb : Below w.heap.size w w') : PenF w' F g l := by
 obtain ⟨k, h1, h2, h3, h4⟩ := h
 exact ⟨k, h1.kp (Tp.Kp.of_below hb fun _ => False) (fun h => h) (fun _ _ h => h), h2, h3, fun b hb' => Nat.lt_of_lt_of_le (h4 b hb') hb.size⟩
def StepF (w : World) (F : Nat → Prop) (g : Nat) (l : List Nat) (w' : World) : Prop := ∃ F', PenF w' F' g l ∧ Stp w F w' F'
theorem StepF.refl {w w' : World} {F : Nat → Prop} {g : Nat} {l : List Nat} (h : PenF w F g l) (hb : Below w.heap.size w w') : StepF w F g l w' := ⟨F, h.on hb, Stp.of_below hb⟩
theorem StepF.of_wrote {w w' : World} {F : Nat → Prop} {g : Nat} {k : Option Nat} {l : List Nat} (h1 : F g) (h2 : ∀ j, k = some j → F j) (h3 : ∀ b, F b → b < w.heap.size) (h : Tp.Wrote w g k l w') : StepF w F g l w' := by
 obtain ⟨k', h4, h5, h6⟩ := h
 refine ⟨fun b => F b ∨ (w.heap.size ≤ b ∧ b < w'.heap.size), ⟨k', h4, .inl h1, fun j hj => ?_, fun b hb => ?_⟩, h6.more fun i _ hi => ?_, fun b hb => hb.imp id fun h => h.1⟩
 · rcases h5 with h5 | ⟨i, h5, hi⟩
   · exact .inl (h2 j (h5.symm.trans hj))
   · have := h4.row_lt j hj
     rw [h5] at hj
     injection hj with hj
     exact .inr ⟨by omega, this⟩
 · rcases hb with hb | hb
   · exact Nat.lt_of_lt_of_le (h3 b hb) h6.size
   · exact hb.2
 · rcases hi with rfl | hi
   · exact h1
   · exact h2 i hi
theorem PenF.then {w w1 w2 : World} {F F1 : Nat → Prop} {g : Nat} {l : List Nat} (h1 : Stp w F w1 F1) (h2 : StepF w1 F1 g l w2) : StepF w F g l w2 := by
 obtain ⟨F2, h3, h4⟩ := h2
 exact ⟨F2, h3, h1.trans h4⟩
theorem SlV.stp {w w' : World} {F F' : Nat → Prop} {v : Value} {n : Nat} {cs : List Value} (h : SlV w F v n cs) (hs : Stp w F w' F') : SlV w' F' v n cs :=
 h.kp hs.1 (fun _ _ h => h) fun b hb h => (hs.2 b h).resolve_right (by omega)
theorem Sl.stp {w w' : World} {F F' : Nat → Prop} {A : Option Addr} {cs : List Value} (h : Sl w F A cs) (hs : Stp w F w' F') : Sl w' F' A cs :=
 h.kp hs.1 (fun _ _ h => h) fun b hb h => (hs.2 b h).resolve_right (by omega)
theorem MapsV.stp {w w' : World} {F F' : Nat → Prop} {v : Value} {ms : List Mp} (h : MapsV w F v ms) (hs : Stp w F w' F') : MapsV w' F' v ms :=
 h.kp hs.1 (fun _ _ h => h) fun b hb h => (hs.2 b h).resolve_right (by omega)
theorem penF_num {w : World} {F : Nat → Prop} {g : Nat} {l : List Nat} {z : Int} (hp : PenF w F g l) (hl : l.length ≤ 80000000) :
   Calls Tryz.prog 51 #[.pointer (some ⟨g, 0, none⟩), .int .i64 z] w fun e w' => (∃ b, e = .returned (.bool b)) ∧ StepF w F g (l ++ encZ z) w' := by
 obtain ⟨k, h1, h2, h3, h4⟩ := hp
 by_cases hz : 0 ≤ z ∧ z ≤ 4611686018427387903
 · have e : encZ z = Tp.enc z.toNat := by unfold encZ; rw [if_pos hz]
   have ez : z = ((z.toNat : Nat) : Int) := by omega
   rw [e]
   have h := Tp.pen_number (n := z.toNat) h1 (by omega) (by omega)
   rw [← ez] at h
   refine h.mono ?_
   rintro e w' ⟨rfl, hw⟩
   exact ⟨⟨_, rfl⟩, StepF.of_wrote h2 h3 h4 hw⟩
 · have e : encZ z = [] := by unfold encZ; rw [if_neg hz]
   rw [e, List.append_nil]
   refine (Tp.pen_refuse w g (n := z) (by omega)).mono ?_
   rintro e w' ⟨rfl, rfl⟩
   exact ⟨⟨_, rfl⟩, StepF.refl ⟨k, h1, h2, h3, h4⟩ (Below.refl _ _)⟩
end Go.Proofs.YtgcbfggoddkhnaaGreatDoor
namespace Go.Proofs.YtgcbfggoddkhnaaGreatDoor.Tp
open Go.RowKit
set_option maxRecDepth 100000 in
theorem pen_text2 {w : World} {g : Nat} {k : Option Nat} {l : List Nat} (hp : PenAt w g k l) (hn : l.length ≤ 80000000) (s : ByteArray) (hs : s.size ≤ 10000000) :
  Calls Tryz.prog 53 #[.pointer (some ⟨g, 0, none⟩), .string s] w fun e w' => e = .returned (.tuple #[]) ∧ Wrote w g k (l ++ txt s) w' := by
 have H := Lib.hid (pen_number (n := s.size) hp (by omega) (by omega))
 have HE : Hid ((enc s.size).length ≤ 9) := enc_nine (by omega)
 have hg := hp.lt
 clear hp
 go_enter Tryz.func53, Tryz.ntmps53
 go_wp2_with fail
 refine H.out.mono ?_
 rintro e w1 ⟨rfl, ⟨k0, ⟨v, hc, hf, rfl, ho, hne⟩, hk0, hkp⟩⟩
 have HO := Lib.hid ho
 have HK := Lib.hid hk0
 clear ho hk0
 go_wp2_with (at_builtin; refine wpList_append_str rfl _ _ rfl v (l ++ enc s.size) s rfl HO.out rfl (by have := HE.out; simp; omega) ?_)
 intro v' w2 h1 h2 h3
 have hc1 := h2.cell hc hne
 have hf1 := (h2.frozen hne (World.block_lt_of_cell? _ _ hc)).trans hf
 have HW := Lib.hid (Wrote.step HK.out hkp hg hne hf1 hc1 h1 h2 h3)
 obtain ⟨A', n', c', rfl⟩ := h1.slice
 clear h1 h2 h3 hkp hc hf HO HK hne
 go_wp2_with fail
 go_end0
 exact ⟨rfl, HW.out⟩
end Go.Proofs.YtgcbfggoddkhnaaGreatDoor.Tp
namespace Go.Proofs.YtgcbfggoddkhnaaGreatDoor
open Go.RowKit
open Pa (encZ zBytes)
theorem penF_txt {w : World} {F : Nat → Prop} {g : Nat} {l : List Nat} {s : ByteArray} (hp : PenF w F g l) (hl : l.length ≤ 80000000) (hs : s.size ≤ 10000000) :
  Calls Tryz.prog 53 #[.pointer (some ⟨g, 0, none⟩), .string s] w fun e w' => e = .returned (.tuple #[]) ∧ StepF w F g (l ++ Tp.txt s) w' := by
 obtain ⟨k, h1, h2, h3, h4⟩ := hp
 refine (Tp.pen_text2 h1 hl s hs).mono ?_
 rintro e w' ⟨rfl, hw⟩
 exact ⟨rfl, StepF.of_wrote h2 h3 h4 hw⟩
theorem penF_flag {w : World} {F : Nat → Prop} {g : Nat} {l : List Nat} {b : Bool} (hp : PenF w F g l) (hl : l.length ≤ 80000000) :
  Calls Tryz.prog 56 #[.pointer (some ⟨g, 0, none⟩), .bool b] w fun e w' => e = .returned (.tuple #[]) ∧ StepF w F g (l ++ encZ (if b then 1 else 0)) w' := by
 cases b with
 | true =>
  have H := Lib.hid (penF_num (z := 1) hp hl)
  clear hp
  go_enter Tryz.func56, Tryz.ntmps56
  go_wp2_with fail
  refine H.out.mono ?_
  rintro e w1 ⟨⟨b0, rfl⟩, h⟩
  have HH := Lib.hid h
  clear h H
  go_wp2_with fail
  go_end0
  exact ⟨rfl, HH.out⟩
 | false =>
  have H := Lib.hid (penF_num (z := 0) hp hl)
  clear hp
  go_enter Tryz.func56, Tryz.ntmps56
  go_wp2_with fail
  refine H.out.mono ?_
  rintro e w1 ⟨⟨b0, rfl⟩, h⟩
  have HH := Lib.hid h
  clear h H
  go_wp2_with fail
  go_end0
  exact ⟨rfl, HH.out⟩
theorem flat_take {α : Type} (f : α → List Nat) (l : List α) (m : Nat) : ((l.take m).flatMap f).length ≤ (l.flatMap f).length := by
 have h := congrArg (fun x => (x.flatMap f).length) (List.take_append_drop m l)
 simp only [List.flatMap_append, List.length_append] at h
 omega
def PutF {α : Type} (w : World) (F : Nat → Prop) (g : Nat) (p : List Nat) (f : α → List Nat) (l : List α) (k : Nat) (i : Value) (wr : World) : Prop :=
 ∃ m, m + k = l.length ∧ i = .int .i64 (m : Int) ∧ StepF w F g (p ++ (Tp.enc l.length ++ (l.take m).flatMap f)) wr
set_option maxRecDepth 100000 in
set_option maxHeartbeats 1000000 in
theorem labelPut_any {w : World} {F : Nat → Prop} {g : Nat} {p : List Nat} {v : Value} {l : List Ent} (hp : PenF w F g p) (hl : SlV w F v l.length (entCells l)) (hn : l.length ≤ 10000000) (hx : ∀ e ∈ l, e.1.length ≤ 10000000) (hb : (p ++ labBytes l).length ≤ 80000000) :
  Calls Tryz.prog 52 #[.pointer (some ⟨g, 0, none⟩), v] w fun e w' => e = .returned (.tuple #[]) ∧ StepF w F g (p ++ labBytes l) w' := by
 obtain ⟨A, c, rfl, hA1, hA2, hsl⟩ := hl
 have HL := Lib.hid hsl
 have HX := Lib.hid hx
 have hq : encZ (l.length : Int) = Tp.enc l.length := by unfold encZ; rw [if_pos (by omega)]; simp
 have HB : Hid (∀ m, (p ++ (Tp.enc l.length ++ (l.take m).flatMap entBytes)).length ≤ 80000000) := fun m => by
  have := flat_take entBytes l m
  unfold labBytes at hb
  simp only [List.length_append] at hb ⊢
  omega
 have hpl : p.length ≤ 80000000 := by rw [List.length_append] at hb; omega
 have HN := Lib.hid (penF_num (z := (l.length : Int)) hp hpl)
 rw [hq] at HN
 clear hsl hx hq hb hp
 go_enter Tryz.func52, Tryz.ntmps52
 go_wp2_with fail
 refine HN.out.mono ?_
 rintro e w1 ⟨⟨b0, rfl⟩, h1⟩
 have H1 := Lib.hid h1
 clear h1 HN
 go_wp2_with fail
 go_loopg [12] l.length (fun k i wr => PutF w F g p entBytes l k i wr)
 case atStart => exact ⟨0, by simp, rfl, by simpa using H1.out⟩
 case round =>
  obtain ⟨m, hmk, hi, hst⟩ := hrel
  subst hi
  have HST := Lib.hid hst
  cases gk with
  | zero =>
   have hge : l.length ≤ m := by omega
   have HF : Hid (StepF w F g (p ++ labBytes l) wr) := by
    have := hst
    rw [List.take_of_length_le hge] at this
    exact this
   clear hst
   go_wp2_with fail
   go_end0
   exact ⟨rfl, HF.out⟩
  | succ j =>
   have hm : m < l.length := by omega
   obtain ⟨⟨t, n⟩, hx⟩ : ∃ x, l[m]? = some x := ⟨_, List.getElem?_eq_getElem hm⟩
   obtain ⟨F1, hp1, hs1⟩ := hst
   obtain ⟨b, o, rfl, -, hlt, hcells⟩ := (HL.out.stp hs1) (by rw [entCells_length]; omega)
   obtain ⟨e1, e2⟩ := entCells_at hx
   have c1 := hcells _ _ e1
   have c2 := hcells _ _ e2
   rw [← Nat.add_assoc] at c2
   have HM := Lib.hid hmk
   have htl : t.length ≤ 10000000 := HX.out _ (List.mem_of_getElem? hx)
   obtain ⟨pb, hpb⟩ : ∃ pb, pb = p ++ (Tp.enc l.length ++ (l.take m).flatMap entBytes) := ⟨_, rfl⟩
   have HPB : Hid (pb ++ Tp.txt (str t) ++ encZ n = p ++ (Tp.enc l.length ++ (l.take (m + 1)).flatMap entBytes)) := by
    unfold Hid
    rw [List.take_add_one, hx, List.flatMap_append, hpb]
    simp [entBytes]
   have hpbl := HB.out m
   have hpbl2 := HB.out (m + 1)
   rw [← HPB.out] at hpbl2
   rw [← hpb] at hp1 hpbl
   have hal := (Below.refl wr.heap.size wr).alloc (Nat.le_refl _) (.cells #[.string (str t), .int .i64 n] 42)
   have H53 := Lib.hid (penF_txt (s := str t) (hp1.on hal) hpbl (by rw [str_size]; exact htl))
   have X0 := Lib.hid (BoxAt.new wr #[.string (str t), .int .i64 n] 42)
   have hnF : ¬ F1 wr.heap.size := fun h => by
    obtain ⟨_, _, _, _, hlt⟩ := hp1
    have := hlt _ h
    omega
   have HNF := Lib.hid hnF
   have HS0 : Hid (Stp w F (wr.alloc (.cells #[.string (str t), .int .i64 n] 42)) F1) := hs1.trans (Stp.of_below hal)
   have hq1 : (pb ++ Tp.txt (str t)).length ≤ 80000000 := by rw [List.length_append] at hpbl2; omega
   have HQ1 := Lib.hid hq1
   clear hx hmk hpb hp1 hal hcells e1 e2 hs1 hpbl2 hq1 hnF
   go_wp2_with fail
   refine H53.out.mono ?_
   rintro e w2 ⟨rfl, F2, hp2, hs2⟩
   have x2 := X0.out.kp hs2.1 HNF.out
   have c4 := x2.cell (k := 1) rfl
   have H51 := Lib.hid (penF_num (z := n) hp2 HQ1.out)
   have S2 := Lib.hid (HS0.out.trans hs2)
   clear hp2 hs2 x2 H53
   go_wp2_with fail
   refine H51.out.mono ?_
   rintro e w3 ⟨⟨b1, rfl⟩, h3⟩
   have H3 : Hid (StepF w F g (p ++ (Tp.enc l.length ++ (l.take (m + 1)).flatMap entBytes)) w3) := by rw [← HPB.out]; exact PenF.then S2.out h3
   clear h3 H51 c4 c1 c2
   go_wp2_with fail
   go_roundg j
   case measure => omega
   case rel => exact ⟨m + 1, by have := HM.out; omega, by go_num, H3.out⟩
set_option maxRecDepth 100000 in
set_option maxHeartbeats 1000000 in
theorem ownsPut_any {w : World} {F : Nat → Prop} {g : Nat} {p : List Nat} {v : Value} {l : List (List UInt8)} (hp : PenF w F g p) (hl : SlV w F v l.length (strCellsOf l)) (hn : l.length ≤ 10000000) (hx : ∀ x ∈ l, x.length ≤ 10000000) (hb : (p ++ ownBytes l).length ≤ 80000000) :
  Calls Tryz.prog 54 #[.pointer (some ⟨g, 0, none⟩), v] w fun e w' => e = .returned (.tuple #[]) ∧ StepF w F g (p ++ ownBytes l) w' := by
 obtain ⟨A, c, rfl, hA1, hA2, hsl⟩ := hl
 have HL := Lib.hid hsl
 have HX := Lib.hid hx
 have hq : encZ (l.length : Int) = Tp.enc l.length := by unfold encZ; rw [if_pos (by omega)]; simp
 have HB : Hid (∀ m, (p ++ (Tp.enc l.length ++ (l.take m).flatMap catBytes)).length ≤ 80000000) := fun m => by
  have := flat_take catBytes l m
  unfold ownBytes at hb
  simp only [List.length_append] at hb ⊢
  omega
 have hpl : p.length ≤ 80000000 := by rw [List.length_append] at hb; omega
 have HN := Lib.hid (penF_num (z := (l.length : Int)) hp hpl)
 rw [hq] at HN
 clear hsl hx hq hb hp
 go_enter Tryz.func54, Tryz.ntmps54
 go_wp2_with fail
 refine HN.out.mono ?_
 rintro e w1 ⟨⟨b0, rfl⟩, h1⟩
 have H1 := Lib.hid h1
 clear h1 HN
 go_wp2_with fail
 go_loopg [12] l.length (fun k i wr => PutF w F g p catBytes l k i wr)
 case atStart => exact ⟨0, by simp, rfl, by simpa using H1.out⟩
 case round =>
  obtain ⟨m, hmk, hi, hst⟩ := hrel
  subst hi
  cases gk with
  | zero =>
   have hge : l.length ≤ m := by omega
   have HF : Hid (StepF w F g (p ++ ownBytes l) wr) := by
    have := hst
    rw [List.take_of_length_le hge] at this
    exact this
   clear hst
   go_wp2_with fail
   go_end0
   exact ⟨rfl, HF.out⟩
  | succ j =>
   have hm : m < l.length := by omega
   obtain ⟨t, hx⟩ : ∃ x, l[m]? = some x := ⟨_, List.getElem?_eq_getElem hm⟩
   obtain ⟨F1, hp1, hs1⟩ := hst
   obtain ⟨b, o, rfl, -, hlt, hcells⟩ := (HL.out.stp hs1) (by unfold strCellsOf; rw [List.length_map]; omega)
   have c1 := hcells m (.string (str t)) (by simp [strCellsOf, hx])
   have HM := Lib.hid hmk
   have htl : t.length ≤ 10000000 := HX.out _ (List.mem_of_getElem? hx)
   obtain ⟨pb, hpb⟩ : ∃ pb, pb = p ++ (Tp.enc l.length ++ (l.take m).flatMap catBytes) := ⟨_, rfl⟩
   have HPB : Hid (pb ++ Tp.txt (str t) = p ++ (Tp.enc l.length ++ (l.take (m + 1)).flatMap catBytes)) := by
    unfold Hid
    rw [List.take_add_one, hx, List.flatMap_append, hpb]
    simp [catBytes]
   have hpbl := HB.out m
   rw [← hpb] at hp1 hpbl
   have H53 := Lib.hid (penF_txt (s := str t) hp1 hpbl (by rw [str_size]; exact htl))
   have S1 := Lib.hid hs1
   clear hx hmk hpb hp1 hcells hs1
   go_wp2_with fail
   refine H53.out.mono ?_
   rintro e w2 ⟨rfl, h2⟩
   have H3 : Hid (StepF w F g (p ++ (Tp.enc l.length ++ (l.take (m + 1)).flatMap catBytes)) w2) := by rw [← HPB.out]; exact PenF.then S1.out h2
   clear h2 H53 c1
   go_wp2_with fail
   go_roundg j
   case measure => omega
   case rel => exact ⟨m + 1, by have := HM.out; omega, by go_num, H3.out⟩
set_option maxRecDepth 100000 in
set_option maxHeartbeats 1000000 in
theorem pathPut_any {w : World} {F : Nat → Prop} {g : Nat} {p : List Nat} {v : Value} {l : List Int} (hp : PenF w F g p) (hl : SlV w F v l.length (Pa.zCellsOf l)) (hn : l.length ≤ 10000000) (hb : (p ++ zBytes l).length ≤ 80000000) :
  Calls Tryz.prog 55 #[.pointer (some ⟨g, 0, none⟩), v] w fun e w' => e = .returned (.tuple #[]) ∧ StepF w F g (p ++ zBytes l) w' := by
 obtain ⟨A, c, rfl, hA1, hA2, hsl⟩ := hl
 have HL := Lib.hid hsl
 have hq : encZ (l.length : Int) = Tp.enc l.length := by unfold encZ; rw [if_pos (by omega)]; simp
 have HB : Hid (∀ m, (p ++ (Tp.enc l.length ++ (l.take m).flatMap encZ)).length ≤ 80000000) := fun m => by
  have := flat_take encZ l m
  unfold zBytes at hb
  simp only [List.length_append] at hb ⊢
  omega
 have hpl : p.length ≤ 80000000 := by rw [List.length_append] at hb; omega
 have HN := Lib.hid (penF_num (z := (l.length : Int)) hp hpl)
 rw [hq] at HN
 clear hsl hq hb hp
 go_enter Tryz.func55, Tryz.ntmps55
 go_wp2_with fail
 refine HN.out.mono ?_
 rintro e w1 ⟨⟨b0, rfl⟩, h1⟩
 have H1 := Lib.hid h1
 clear h1 HN
 go_wp2_with fail
 go_loopg [12] l.length (fun k i wr => PutF w F g p encZ l k i wr)
 case atStart => exact ⟨0, by simp, rfl, by simpa using H1.out⟩
 case round =>
  obtain ⟨m, hmk, hi, hst⟩ := hrel
  subst hi
  cases gk with
  | zero =>
   have hge : l.length ≤ m := by omega
   have HF : Hid (StepF w F g (p ++ zBytes l) wr) := by
    have := hst
    rw [List.take_of_length_le hge] at this
    exact this
   clear hst
   go_wp2_with fail
   go_end0
   exact ⟨rfl, HF.out⟩
  | succ j =>
   have hm : m < l.length := by omega
   obtain ⟨z, hx⟩ : ∃ x, l[m]? = some x := ⟨_, List.getElem?_eq_getElem hm⟩
   obtain ⟨F1, hp1, hs1⟩ := hst
   obtain ⟨b, o, rfl, -, hlt, hcells⟩ := (HL.out.stp hs1) (by unfold Pa.zCellsOf; rw [List.length_map]; omega)
   have c1 := hcells m (.int .i64 z) (by simp [Pa.zCellsOf, hx])
   have HM := Lib.hid hmk
   obtain ⟨pb, hpb⟩ : ∃ pb, pb = p ++ (Tp.enc l.length ++ (l.take m).flatMap encZ) := ⟨_, rfl⟩
   have HPB : Hid (pb ++ encZ z = p ++ (Tp.enc l.length ++ (l.take (m + 1)).flatMap encZ)) := by
    unfold Hid
    rw [List.take_add_one, hx, List.flatMap_append, hpb]
    simp
   have hpbl := HB.out m
   rw [← hpb] at hp1 hpbl
   have H51 := Lib.hid (penF_num (z := z) hp1 hpbl)
   have S1 := Lib.hid hs1
   clear hx hmk hpb hp1 hcells hs1
   go_wp2_with fail
   refine H51.out.mono ?_
   rintro e w2 ⟨⟨b1, rfl⟩, h2⟩
   have H3 : Hid (StepF w F g (p ++ (Tp.enc l.length ++ (l.take (m + 1)).flatMap encZ)) w2) := by rw [← HPB.out]; exact PenF.then S1.out h2
   clear h2 H51 c1
   go_wp2_with fail
   go_roundg j
   case measure => omega
   case rel => exact ⟨m + 1, by have := HM.out; omega, by go_num, H3.out⟩
end Go.Proofs.YtgcbfggoddkhnaaGreatDoor
namespace Go.Proofs.YtgcbfggoddkhnaaGreatDoor
open Go.RowKit
theorem len_flat {α : Type} {f : α → List Nat} (h : ∀ x, 1 ≤ (f x).length) : ∀ {l : List α}, l.length ≤ (l.flatMap f).length
 | [] => by simp
 | x :: r => by
  have h1 := h x
  have h2 := len_flat h (l := r)
  simp only [List.flatMap_cons, List.length_append, List.length_cons]
  omega
set_option maxRecDepth 100000 in
theorem Tp.ref_text2 (w : World) (s : ByteArray) (hs : s.size ≤ 100000000) : Calls Tryz.prog 47 #[.string s] w (RetB w (.string (str (txt s)))) := by
 have H := Lib.hid (ref_number s.size (by omega) w)
 have HE : Hid (str (txt s) = str (enc s.size) ++ s) := by
  have h := str_append (enc s.size) (bys s)
  rw [str_bys] at h
  exact h.symm
 have hsz := enc_str_size s.size (by omega)
 obtain ⟨p, hp⟩ : ∃ p, p = str (enc s.size) := ⟨_, rfl⟩
 rw [← hp] at H HE hsz
 have q3 : ∀ W : World, (Op.stringOp .add p s).run Tryz.prog W = .ok (.string (p ++ s)) W := fun W => add_str W (by omega) (by omega)
 clear hp
 go_enter Tryz.func47, Tryz.ntmps47
 go_wp2_with fail
 refine H.out.mono ?_
 rintro e w' ⟨rfl, hb⟩
 have HB := Lib.hid hb
 clear hb
 go_wp2_with fail
 go_ret
 exact ⟨by rw [HE.out]; rfl, HB.out⟩
def RpRel6 (w : World) (l : List Ent) (k : Nat) (s i : Value) (wr : World) : Prop :=
 ∃ m, m + k = l.length ∧ i = .int .i64 (m : Int) ∧ s = .string (Tp.str (Tp.enc l.length ++ (l.take m).flatMap entBytes)) ∧ Below w.heap.size w wr
set_option maxRecDepth 100000 in
set_option maxHeartbeats 1000000 in
theorem refPut6_any {w : World} {A : Option Addr} {c : Nat} {l : List Ent} (hl : Ents w w.heap.size A l) (hB : (labBytes l).length ≤ 20000000) :
  Calls Tryz.prog 46 #[.slice A l.length c] w (RetB w (.string (Tp.str (labBytes l)))) := by
 have HL := Lib.hid hl
 have hn : l.length ≤ 20000000 := by
  have h1 : l.length ≤ (l.flatMap entBytes).length := len_flat fun e => by
   have := Tp.enc_pos e.1.length
   unfold entBytes
   rw [txt_eq, List.length_append, List.length_append, bys_len]
   omega
  unfold labBytes at hB
  rw [List.length_append] at hB
  omega
 have HFB : Hid (∀ m, (Tp.enc l.length ++ (l.take m).flatMap entBytes).length ≤ 20000000) := fun m => by
  have := flat_take entBytes l m
  unfold labBytes at hB
  rw [List.length_append] at hB ⊢
  omega
 have H45 := Lib.hid (Tp.ref_number l.length (by omega) w)
 clear hl hB
 go_enter Tryz.func46, Tryz.ntmps46
 go_wp2_with fail
 refine H45.out.mono ?_
 rintro e w1 ⟨rfl, hb1⟩
 have B1 := Lib.hid hb1
 clear hb1 H45
 go_wp2_with fail
 go_loopg [3, 11] l.length (fun k s i wr => RpRel6 w l k s i wr)
 case atStart => exact ⟨0, by simp, rfl, by simp, B1.out⟩
 case round =>
  obtain ⟨m, hmk, hi, hs, hb⟩ := hrel
  subst hi hs
  have HB := Lib.hid hb
  have hsz := hb.size
  cases gk with
  | zero =>
   have hge : l.length ≤ m := by omega
   rw [List.take_of_length_le hge]
   have HD : Hid (labBytes l = Tp.enc l.length ++ l.flatMap entBytes) := rfl
   rw [← HD.out]
   clear hb
   go_wp2_with fail
   go_ret
   exact ⟨rfl, HB.out⟩
  | succ j =>
   have hm : m < l.length := by omega
   obtain ⟨⟨t, n⟩, hx⟩ : ∃ x, l[m]? = some x := ⟨_, List.getElem?_eq_getElem hm⟩
   obtain ⟨b, o, rfl, hlt, hcells⟩ := (HL.out.below hb) (by omega)
   obtain ⟨c1, c2⟩ := hcells m t n hx
   have HM := Lib.hid hmk
   obtain ⟨pb, hpb⟩ : ∃ pb, pb = Tp.enc l.length ++ (l.take m).flatMap entBytes := ⟨_, rfl⟩
   have hpl : pb.length ≤ 20000000 := by rw [hpb]; exact HFB.out m
   have HPB : Hid (pb ++ Tp.txt (str t) ++ Pa.encZ n = Tp.enc l.length ++ (l.take (m + 1)).flatMap entBytes) := by
     unfold Hid
     rw [List.take_add_one, hx, List.flatMap_append, hpb]
     simp [entBytes]
   rw [← hpb]
   have hq : (pb ++ Tp.txt (str t)).length ≤ 20000000 := by
     have := HFB.out (m + 1)
     rw [← HPB.out, List.length_append] at this
     omega
   have hTl : (Tp.txt (str t)).length ≤ 20000000 := by rw [List.length_append] at hq; omega
   have htl : t.length ≤ 20000000 := by
     rw [txt_eq, List.length_append, bys_len] at hTl
     omega
   obtain ⟨W0, hW0⟩ : ∃ W0, W0 = wr.alloc (.cells #[.string (str t), .int .i64 n] 42) := ⟨_, rfl⟩
   have hB0 : Below wr.heap.size wr W0 := by rw [hW0]; exact (Below.refl _ _).alloc (Nat.le_refl _) _
   have k1 : W0.cell? ⟨wr.heap.size, 1, none⟩ = some (.int .i64 n) := by rw [hW0]; simp
   have hg0 : wr.heap.size < W0.heap.size := by rw [hW0]; simp
   have H46 := Lib.hid (Tp.ref_text2 W0 (str t) (by rw [str_size]; omega))
   obtain ⟨sT, hsT⟩ : ∃ sT, sT = Tp.txt (str t) := ⟨_, rfl⟩
   rw [← hsT] at H46 HPB hTl hq
   obtain ⟨q1, hq1⟩ : ∃ q1, q1 = pb ++ sT := ⟨_, rfl⟩
   rw [← hq1] at HPB
   have hq1l : q1.length ≤ 20000000 := by rw [hq1]; exact hq
   have a1 : ∀ W : World, (Op.stringOp .add (Tp.str pb) (Tp.str sT)).run Tryz.prog W = .ok (.string (Tp.str q1)) W := fun W => by
     rw [hq1, ← Tp.str_append]
     exact Tp.add_str W (by rw [Tp.str_size]; omega) (by rw [Tp.str_size]; omega)
   have HW0 := Lib.hid hW0
   have HB0 := Lib.hid hB0
   have K1 := Lib.hid k1
   clear hcells hx hmk hb hB0 hW0 hpb hsT hq1 hq k1
   go_wp2_with fail
   rw [← HW0.out]
   refine H46.out.mono ?_
   rintro e w2 ⟨rfl, hb2⟩
   have c4 : w2.cell? ⟨wr.heap.size, 1, none⟩ = some (.int .i64 n) := (hb2.cell (p := ⟨wr.heap.size, 1, none⟩) hg0).trans K1.out
   have B2 : Hid (Below w.heap.size w w2) := HB.out.trans ((HB0.out.trans (hb2.mono HB0.out.size)).mono hsz)
   clear hb2 H46 c1 c2
   by_cases hlo : 0 ≤ n
   · by_cases hhi : n ≤ 4611686018427387903
     · obtain ⟨u, hu⟩ : ∃ u : Nat, (u : Int) = n := ⟨n.toNat, by omega⟩
       subst hu
       have HNB : Hid (Pa.encZ (u : Int) = Tp.enc u) := by unfold Hid Pa.encZ; rw [if_pos ⟨hlo, hhi⟩, Int.toNat_natCast]
       have H45b := Lib.hid (Tp.ref_number u (by omega) w2)
       obtain ⟨eu, heu⟩ : ∃ eu, eu = Tp.enc u := ⟨_, rfl⟩
       rw [← heu] at H45b HNB
       have heul : eu.length ≤ 9 := by rw [heu]; exact Tp.enc_nine (by omega)
       obtain ⟨q2, hq2⟩ : ∃ q2, q2 = q1 ++ eu := ⟨_, rfl⟩
       have a2 : ∀ W : World, (Op.stringOp .add (Tp.str q1) (Tp.str eu)).run Tryz.prog W = .ok (.string (Tp.str q2)) W := fun W => by
        rw [hq2, ← Tp.str_append]
        exact Tp.add_str W (by rw [Tp.str_size]; omega) (by rw [Tp.str_size]; omega)
       have HR : Hid (Tp.enc l.length ++ (l.take (m + 1)).flatMap entBytes = q2) := by
        unfold Hid
        rw [← HPB.out, HNB.out, hq2]
       clear hq2 heu
       go_wp2_with fail
       refine H45b.out.mono ?_
       rintro e w3 ⟨rfl, hb3⟩
       have B3 : Hid (Below w.heap.size w w3) := B2.out.trans (hb3.mono B2.out.size)
       clear hb3 H45b c4
       go_wp2_with fail
       go_roundg j
       case measure => omega
       case rel => exact ⟨m + 1, by have := HM.out; omega, by go_num, by rw [HR.out], B3.out⟩
     · have HR : Hid (Tp.enc l.length ++ (l.take (m + 1)).flatMap entBytes = q1) := by
        unfold Hid
        rw [← HPB.out]
        unfold Pa.encZ
        rw [if_neg (fun h => hhi h.2), List.append_nil]
       go_wp2_with fail
       go_roundg j
       case measure => omega
       case rel => exact ⟨m + 1, by have := HM.out; omega, by go_num, by rw [HR.out], B2.out⟩
   · have HR : Hid (Tp.enc l.length ++ (l.take (m + 1)).flatMap entBytes = q1) := by
       unfold Hid
       rw [← HPB.out]
       unfold Pa.encZ
       rw [if_neg (fun h => hlo h.1), List.append_nil]
     go_wp2_with fail
     go_roundg j
     case measure => omega
     case rel => exact ⟨m + 1, by have := HM.out; omega, by go_num, by rw [HR.out], B2.out⟩
def RpRel7 (w : World) (l : List (List UInt8)) (k : Nat) (s i : Value) (wr : World) : Prop :=
 ∃ m, m + k = l.length ∧ i = .int .i64 (m : Int) ∧ s = .string (Tp.str (Tp.enc l.length ++ (l.take m).flatMap catBytes)) ∧ Below w.heap.size w wr
set_option maxRecDepth 100000 in
set_option maxHeartbeats 1000000 in
theorem refPut7_any {w : World} {A : Option Addr} {c : Nat} {l : List (List UInt8)} (hl : Strs w w.heap.size A l) (hB : (ownBytes l).length ≤ 20000000) :
  Calls Tryz.prog 48 #[.slice A l.length c] w (RetB w (.string (Tp.str (ownBytes l)))) := by
 have HL := Lib.hid hl
 have hn : l.length ≤ 20000000 := by
  have h1 : l.length ≤ (l.flatMap catBytes).length := len_flat fun e => by
   have := Tp.enc_pos e.length
   unfold catBytes
   rw [txt_eq, List.length_append, bys_len]
   omega
  unfold ownBytes at hB
  rw [List.length_append] at hB
  omega
 have HFB : Hid (∀ m, (Tp.enc l.length ++ (l.take m).flatMap catBytes).length ≤ 20000000) := fun m => by
  have := flat_take catBytes l m
  unfold ownBytes at hB
  rw [List.length_append] at hB ⊢
  omega
 have H45 := Lib.hid (Tp.ref_number l.length (by omega) w)
 clear hl hB
 go_enter Tryz.func48, Tryz.ntmps48
 go_wp2_with fail
 refine H45.out.mono ?_
 rintro e w1 ⟨rfl, hb1⟩
 have B1 := Lib.hid hb1
 clear hb1 H45
 go_wp2_with fail
 go_loopg [3, 11] l.length (fun k s i wr => RpRel7 w l k s i wr)
 case atStart => exact ⟨0, by simp, rfl, by simp, B1.out⟩
 case round =>
  obtain ⟨m, hmk, hi, hs, hb⟩ := hrel
  subst hi hs
  have HB := Lib.hid hb
  have hsz := hb.size
  cases gk with
  | zero =>
   have hge : l.length ≤ m := by omega
   rw [List.take_of_length_le hge]
   have HD : Hid (ownBytes l = Tp.enc l.length ++ l.flatMap catBytes) := rfl
   rw [← HD.out]
   clear hb
   go_wp2_with fail
   go_ret
   exact ⟨rfl, HB.out⟩
  | succ j =>
   have hm : m < l.length := by omega
   obtain ⟨t, hx⟩ : ∃ x, l[m]? = some x := ⟨_, List.getElem?_eq_getElem hm⟩
   obtain ⟨b, o, rfl, hlt, hcells⟩ := (HL.out.below hb) (by omega)
   have c1 := hcells m t hx
   have HM := Lib.hid hmk
   obtain ⟨pb, hpb⟩ : ∃ pb, pb = Tp.enc l.length ++ (l.take m).flatMap catBytes := ⟨_, rfl⟩
   have hpl : pb.length ≤ 20000000 := by rw [hpb]; exact HFB.out m
   have HPB : Hid (pb ++ Tp.txt (str t) = Tp.enc l.length ++ (l.take (m + 1)).flatMap catBytes) := by
    unfold Hid
    rw [List.take_add_one, hx, List.flatMap_append, hpb]
    simp [catBytes]
   rw [← hpb]
   have hq : (pb ++ Tp.txt (str t)).length ≤ 20000000 := by
    have := HFB.out (m + 1)
    rwa [← HPB.out] at this
   have hTl : (Tp.txt (str t)).length ≤ 20000000 := by rw [List.length_append] at hq; omega
   have htl : t.length ≤ 20000000 := by
    rw [txt_eq, List.length_append, bys_len] at hTl
    omega
   have H46 := Lib.hid (Tp.ref_text2 wr (str t) (by rw [str_size]; omega))
   obtain ⟨sT, hsT⟩ : ∃ sT, sT = Tp.txt (str t) := ⟨_, rfl⟩
   rw [← hsT] at H46 HPB hTl hq
   obtain ⟨q1, hq1⟩ : ∃ q1, q1 = pb ++ sT := ⟨_, rfl⟩
   rw [← hq1] at HPB
   have hq1l : q1.length ≤ 20000000 := by rw [hq1]; exact hq
   have a1 : ∀ W : World, (Op.stringOp .add (Tp.str pb) (Tp.str sT)).run Tryz.prog W = .ok (.string (Tp.str q1)) W := fun W => by
    rw [hq1, ← Tp.str_append]
    exact Tp.add_str W (by rw [Tp.str_size]; omega) (by rw [Tp.str_size]; omega)
   clear hcells hx hmk hb hpb hsT hq1 hq
   go_wp2_with fail
   refine H46.out.mono ?_
   rintro e w2 ⟨rfl, hb2⟩
   have B2 : Hid (Below w.heap.size w w2) := HB.out.trans (hb2.mono hsz)
   clear hb2 H46 c1
   go_wp2_with fail
   go_roundg j
   case measure => omega
   case rel => exact ⟨m + 1, by have := HM.out; omega, by go_num, by rw [← HPB.out], B2.out⟩
set_option maxRecDepth 100000 in
theorem refNum_any (z : Int) (w : World) : Calls Tryz.prog 45 #[.int .i64 z] w (RetB w (.string (Tp.str (Pa.encZ z)))) := by
 by_cases h1 : z < 0
 · have e : Pa.encZ z = [] := by unfold Pa.encZ; rw [if_neg (by omega)]
   rw [e]
   go_enter Tryz.func45, Tryz.ntmps45
   go_wp2_with fail
   go_ret
   exact ⟨rfl, Below.refl _ _⟩
 · by_cases h2 : 4611686018427387903 < z
   · have e : Pa.encZ z = [] := by unfold Pa.encZ; rw [if_neg (by omega)]
     rw [e]
     go_enter Tryz.func45, Tryz.ntmps45
     go_wp2_with fail
     go_ret
     exact ⟨rfl, Below.refl _ _⟩
   · obtain ⟨n, rfl⟩ : ∃ n : Nat, z = (n : Int) := ⟨z.toNat, by omega⟩
     have e : Pa.encZ (n : Int) = Tp.enc n := by unfold Pa.encZ; rw [if_pos (by omega), Int.toNat_natCast]
     rw [e]
     have H := Lib.hid (Tp.ref_number n (by omega) w)
     obtain ⟨S, hS⟩ : ∃ S, S = Tp.str (Tp.enc n) := ⟨_, rfl⟩
     rw [← hS] at H ⊢
     clear hS e
     go_enter Tryz.func45, Tryz.ntmps45
     go_wp2_with fail
     refine H.out.mono ?_
     rintro e w1 ⟨rfl, hb⟩
     have HB := Lib.hid hb
     clear hb
     go_wp2_with fail
     go_ret
     exact ⟨rfl, HB.out⟩
end Go.Proofs.YtgcbfggoddkhnaaGreatDoor
