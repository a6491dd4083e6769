/- An error of the reading of a level is not 0. No condition. -/
import Derived.Test.YthnkoamabfaioaaLspec
namespace Go.Proofs.Ythnkoamabfaioaa
open Go

theorem rdN_err {s : ByteArray} {lim k p l e : Nat} (h : rdN s lim k p l = .no e) : e ≠ 0 := by
  unfold rdN at h
  split at h
  · injection h with h; omega
  split at h
  · injection h with h; omega
  · cases h
theorem rows_err {st : Nat → Nat → Rl} (hst : ∀ p l e, st p l = .no e → e ≠ 0) : ∀ (c p l e : Nat), rows st c p l = .no e → e ≠ 0
  | 0, p, l, e, h => by cases h
  | c + 1, p, l, e, h => by
    cases hr : st p l with
    | no e' => rw [rows_no hr] at h; injection h with h; subst h; exact hst _ _ _ hr
    | ok k n F q l' =>
      rw [rows_ok hr] at h
      cases hs : rows st c q l' with
      | no e' => rw [hs] at h; injection h with h; subst h; exact rows_err hst _ _ _ _ hs
      | ok _ _ _ => rw [hs] at h; cases h
theorem wrap_err {r : Rs} {k e : Nat} (h : r.wrap k = .no e) : r = .no e := by
  cases r with
  | no e' => injection h with h; rw [h]
  | ok _ _ _ => cases h
theorem rdL_err (s : ByteArray) : ∀ (d p l e : Nat), rdL s d p l = .no e → e ≠ 0
  | 0, p, l, e, h => by injection h with h; omega
  | d + 1, p, l, e, h => by
    rw [rdL] at h
    split at h
    · injection h with h; omega
    split at h
    · injection h with h; omega
    unfold rdK at h
    split at h
    · cases h
    split at h
    · exact rows_err (fun p l e h => rdL_err s d p l e h) _ _ _ _ (wrap_err h)
    split at h
    · exact rows_err (fun p l e h => rdL_err s d p l e h) _ _ _ _ (wrap_err h)
    split at h
    · exact rows_err (fun p l e h => rdL_err s d p l e h) _ _ _ _ (wrap_err h)
    split at h
    · exact rdN_err h
    split at h
    · exact rdN_err h
    · injection h with h; omega
end Go.Proofs.Ythnkoamabfaioaa
