/- cats.Name. -/
import Derived.Test.YtpokdihnimlgkaaGreatDoorF
namespace Go.Proofs.YtpokdihnimlgkaaGreatDoor
open Go.RowKit

theorem join_snoc : ∀ (ps : List (List UInt8)) (x : List UInt8), ps ≠ [] → joinDot (ps ++ [x]) = joinDot ps ++ 46 :: x
  | [], _, h => absurd rfl h
  | [y], x, _ => rfl
  | y :: z :: r, x, _ => by
    have := join_snoc (z :: r) x (by simp)
    simp only [List.cons_append, joinDot] at this ⊢
    rw [this, List.append_assoc, List.cons_append]
theorem path_one (u : Nat) : pathText [u] = Lib.decDigits u := rfl
theorem path_snoc {p : List Nat} (h : p ≠ []) (u : Nat) : pathText (p ++ [u]) = pathText p ++ 46 :: Lib.decDigits u := by
  unfold pathText
  rw [List.map_append]
  exact join_snoc _ _ (by simpa using h)
theorem path_len : ∀ p : List Nat, (∀ u ∈ p, u ≤ 1048576) → (pathText p).length ≤ 8 * p.length
  | [], _ => by simp [pathText, joinDot]
  | [x], h => by
    have := dec_len7 (h x (by simp))
    rw [path_one]
    simp
    omega
  | x :: y :: r, h => by
    have h1 := dec_len7 (h x (by simp))
    have h2 := path_len (y :: r) (fun u hu => h u (List.mem_cons_of_mem _ hu))
    have e : pathText (x :: y :: r) = Lib.decDigits x ++ 46 :: pathText (y :: r) := rfl
    rw [e]
    simp at h2 ⊢
    omega

def nats (zs : List Int) : List Nat := zs.map Int.toNat
theorem nats_snoc {zs : List Int} {m : Nat} {z : Int} (h : zs[m]? = some z) : nats (zs.take (m + 1)) = nats (zs.take m) ++ [z.toNat] := by
  unfold nats
  rw [List.take_add_one, h, List.map_append]
  rfl

theorem ok_nats {zs : List Int} (h : PathOk zs) (m : Nat) : (pathText (nats (zs.take m))).length ≤ 48 := by
  refine Nat.le_trans (path_len _ fun u hu => ?_) ?_
  · simp only [nats, List.mem_map] at hu
    obtain ⟨z, hz, rfl⟩ := hu
    have := h.2 z (List.mem_of_mem_take hz)
    omega
  · have := h.1
    simp [nats]
    omega
end Go.Proofs.YtpokdihnimlgkaaGreatDoor
