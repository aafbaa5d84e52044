import PyProof.Rows.All
import Wide.All
import OpenK.AllK
import Wide.FinOn
import KE.OsGo
import KE.OsEnd
import KE.OsArgs
import PySem.Challenge.RW_divisorrows_s07_two
set_option Elab.async false
namespace Dv
open Sv81Neutral
def geo (p : Nat) : Nat → Nat
  | 0 => 1
  | j + 1 => geo p j * p + 1
theorem strip_eq {p : Nat} (hp : 2 ≤ p) {m : Nat} (hm : m % p ≠ 0) : ∀ (j k : Nat), j ≤ k → strip p k (m * p ^ j) = (m, geo p j)
  | 0, 0, _ => by simp [strip, geo]
  | 0, k + 1, _ => by simp [strip, geo, hm]
  | j + 1, 0, h => by omega
  | j + 1, k + 1, h => by
    have e : m * p ^ (j + 1) = (m * p ^ j) * p := by rw [Nat.pow_succ, Nat.mul_assoc]
    have z : m * p ^ (j + 1) % p = 0 := by rw [e]; exact Nat.mul_mod_left _ _
    have d : m * p ^ (j + 1) / p = m * p ^ j := by rw [e]; exact Nat.mul_div_cancel _ (by omega)
    have ih := strip_eq hp hm j k (by omega)
    unfold strip
    rw [if_pos z, d, ih]
    show (m, 1 + p * geo p j) = (m, geo p j * p + 1)
    rw [Nat.add_comm 1, Nat.mul_comm p]
theorem geo_le {p : Nat} (hp : 2 ≤ p) : ∀ j, geo p j + 1 ≤ 2 * p ^ j
  | 0 => by simp [geo]
  | j + 1 => by
    have ih := geo_le hp j
    have h1 : (geo p j + 1) * p ≤ 2 * p ^ j * p := Nat.mul_le_mul_right p ih
    rw [Nat.add_mul, Nat.one_mul] at h1
    show geo p j * p + 1 + 1 ≤ 2 * p ^ (j + 1)
    rw [Nat.pow_succ, ← Nat.mul_assoc]
    omega
theorem geo_pos {p : Nat} : ∀ j, 1 ≤ geo p j
  | 0 => Nat.le_refl 1
  | j + 1 => by show 1 ≤ geo p j * p + 1; omega
theorem turn_nat {k p l m j t : Nat} (hp : 2 ≤ p) (hl : p * p ≤ l) (e : l = m * p ^ j) (hm : m % p ≠ 0) (hj : j ≤ 40) :
    totalFrom (k + 1) p l t = totalFrom k (p + 1) m (t * geo p j) := by
  have h4 : 2 * 2 ≤ p * p := Nat.mul_le_mul hp hp
  have s := strip_eq hp hm j 40 hj
  rw [← e] at s
  conv => lhs; unfold totalFrom
  rw [if_neg (show ¬ l ≤ 1 by omega), if_neg (show ¬ l < p * p by omega)]
  by_cases z : l % p = 0
  · rw [if_pos z, s]
  · rw [if_neg z]
    have j0 : j = 0 := by
      cases j with
      | zero => rfl
      | succ i =>
        exfalso
        apply z
        rw [e, Nat.pow_succ, ← Nat.mul_assoc]
        exact Nat.mul_mod_left _ _
    subst j0
    rw [Nat.pow_zero, Nat.mul_one] at e
    rw [e]
    simp [geo]
theorem skip_even {k q m t : Nat} (hq : q % 2 = 0) (hm : m % 2 = 1) : totalFrom (k + 2) q m t = totalFrom (k + 1) (q + 1) m t := by
  have nz : m % q ≠ 0 := by
    intro z
    have d : q ∣ m := Nat.dvd_of_mod_eq_zero z
    have d2 : 2 ∣ m := Nat.dvd_trans (Nat.dvd_of_mod_eq_zero hq) d
    have := Nat.mod_eq_zero_of_dvd d2
    omega
  conv => lhs; unfold totalFrom
  by_cases h1 : m ≤ 1
  · rw [if_pos h1]; conv => rhs; unfold totalFrom
    rw [if_pos h1]
  · rw [if_neg h1]
    by_cases h2 : m < q * q
    · have h3 : m < (q + 1) * (q + 1) := Nat.lt_of_lt_of_le h2 (Nat.mul_le_mul (by omega) (by omega))
      rw [if_pos h2]; conv => rhs; unfold totalFrom
      rw [if_neg h1, if_pos h3]
    · rw [if_neg h2, if_neg nz]
theorem end_one {k p l t : Nat} (h : l ≤ 1) : totalFrom (k + 1) p l t = t := by
  unfold totalFrom; rw [if_pos h]
theorem end_prime {k p l t : Nat} (h1 : ¬ l ≤ 1) (h : l < p * p) : totalFrom (k + 1) p l t = t * (l + 1) := by
  unfold totalFrom; rw [if_neg h1, if_pos h]
end Dv
namespace Dv
open Sv81Neutral
/-- what the def total_of is worth -/
def tot (n : Int) : Int := ((totalOf n.toNat : Nat) : Int)
structure Inn (p l0 l t : Int) : Prop where
  is : ∃ j : Nat, l0.toNat = l.toNat * p.toNat ^ j ∧ t = ((geo p.toNat j : Nat) : Int)
structure Out (n p l t : Int) : Prop where
  eq : totalFrom (40002 - p.toNat) p.toNat l.toNat t.toNat = totalOf n.toNat
  par : p = 2 ∨ (p % 2 = 1 ∧ l % 2 = 1)
theorem inn_start (p l : Int) : Inn p l l 1 := ⟨0, by simp, rfl⟩
theorem fm (l p : Int) (hp : 2 ≤ p) : Int.fmod l p = l % p := Int.fmod_eq_emod_of_nonneg l (by omega)
theorem fd (l p : Int) (hp : 2 ≤ p) : Int.fdiv l p = l / p := Int.fdiv_eq_ediv_of_nonneg l (by omega)
theorem nat_mod {l p : Int} (hp : 2 ≤ p) (hl : 0 ≤ l) : ((l.toNat % p.toNat : Nat) : Int) = l % p := by
  rw [Int.natCast_emod, Int.toNat_of_nonneg hl, Int.toNat_of_nonneg (by omega)]
theorem inn_turn {p l0 l t : Int} (h : Inn p l0 l t) (hp : 2 ≤ p) (hl : 1 ≤ l) (h0 : l0 ≤ 1000000000) (z : Int.fmod l p = 0) :
    1 ≤ Int.fdiv l p ∧ Int.fdiv l p < l ∧ 1 ≤ t * p + 1 ∧ t * p + 1 ≤ 2000000000 ∧ Inn p l0 (Int.fdiv l p) (t * p + 1) := by
  rw [fm l p hp] at z
  rw [fd l p hp]
  obtain ⟨j, e, et⟩ := h.is
  have dv : p * (l / p) = l := by
    have := Int.mul_ediv_add_emod l p
    omega
  have q0 : 0 ≤ l / p := Int.ediv_nonneg (by omega) (by omega)
  have q1 : 1 ≤ l / p := by
    rcases Int.lt_or_le 0 (l / p) with h | h
    · omega
    · have : l / p = 0 := by omega
      rw [this] at dv
      omega
  have q2 : l / p < l := by
    have : 2 * (l / p) ≤ p * (l / p) := Int.mul_le_mul_of_nonneg_right hp q0
    omega
  have inn : Inn p l0 (l / p) (t * p + 1) := by
    refine ⟨j + 1, ?_, ?_⟩
    · have e2 : l.toNat = (l / p).toNat * p.toNat := by
        have : ((l / p).toNat * p.toNat : Nat) = (p * (l / p)).toNat := by
          rw [Int.toNat_mul (by omega) q0, Nat.mul_comm]
        rw [this, dv]
      rw [e, Nat.pow_succ, Nat.mul_comm (p.toNat ^ j), ← Nat.mul_assoc, ← e2]
    · show t * p + 1 = ((geo p.toNat j * p.toNat + 1 : Nat) : Int)
      rw [et]
      push_cast
      rw [Int.toNat_of_nonneg (by omega)]
  obtain ⟨i, e3, e4⟩ := inn.is
  have g1 := geo_pos (p := p.toNat) i
  have g2 := geo_le (p := p.toNat) (by omega) i
  have g3 : 1 * p.toNat ^ i ≤ (l / p).toNat * p.toNat ^ i := Nat.mul_le_mul_right _ (by omega)
  exact ⟨q1, q2, by omega, by omega, inn⟩
theorem pow_small {p j l : Nat} (hp : 2 ≤ p) (h : 1 ≤ l) (hs : l * p ^ j ≤ 1000000000) : j ≤ 30 := by
  have h1 : 2 ^ j ≤ p ^ j := Nat.pow_le_pow_left hp j
  have h2 : 1 * p ^ j ≤ l * p ^ j := Nat.mul_le_mul_right _ h
  rcases Nat.lt_or_ge 30 j with h3 | h3
  · have h4 : 2 ^ 31 ≤ 2 ^ j := Nat.pow_le_pow_right (by omega) h3
    have h5 : (2 : Nat) ^ 31 = 2147483648 := by decide
    omega
  · exact h3
theorem root {p l : Int} (h : p * p ≤ l) (hl : l ≤ 1000000000) : p ≤ 31622 := by
  rcases Int.lt_or_le 31622 p with h1 | h1
  · have : 31623 * 31623 ≤ p * p := Int.mul_le_mul (by omega) (by omega) (by omega) (by omega)
    omega
  · exact h1
/-- one turn of the outer loop, seen from the spec's side: one factor on -/
theorem out_mid {n p l0 l t u : Int} (h : Out n p l0 t) (i : Inn p l0 l u) (hp : 2 ≤ p) (hl : 1 ≤ l) (h0 : 1 ≤ l0) (hs : l0 ≤ 1000000000) (ht : 1 ≤ t) (hb : p * p ≤ l0) (nz : ¬ Int.fmod l p = 0) :
    totalFrom (40001 - p.toNat) (p.toNat + 1) l.toNat (t * u).toNat = totalOf n.toNat := by
  obtain ⟨j, e, et⟩ := i.is
  rw [fm l p hp] at nz
  have r := root hb hs
  have nm : l.toNat % p.toNat ≠ 0 := by
    have := nat_mod (l := l) hp (by omega)
    omega
  have bb : p.toNat * p.toNat ≤ l0.toNat := by
    rw [← Int.toNat_mul (by omega) (by omega)]
    omega
  have jj := pow_small (p := p.toNat) (j := j) (l := l.toNat) (by omega) (by omega) (by omega)
  have k : 40002 - p.toNat = (40001 - p.toNat) + 1 := by omega
  have q := h.eq
  rw [k, turn_nat (by omega) bb e nm (by omega)] at q
  have tu : (t * u).toNat = t.toNat * geo p.toNat j := by
    rw [et, Int.toNat_mul (by omega) (by omega), Int.toNat_natCast]
  rw [tu]
  exact q
theorem odd_of {n p l0 l t u : Int} (h : Out n p l0 t) (i : Inn p l0 l u) (hp : 2 ≤ p) (hl : 1 ≤ l) (h0 : 1 ≤ l0) (nz : ¬ Int.fmod l p = 0) : l % 2 = 1 := by
  rw [fm l p hp] at nz
  rcases h.par with e | ⟨_, o⟩
  · subst e
    omega
  · obtain ⟨j, e, et⟩ := i.is
    rcases Int.emod_two_eq l with z | z
    · exfalso
      have h2 : 2 ∣ l.toNat := by omega
      have h3 : 2 ∣ l0.toNat := by rw [e]; exact Nat.dvd_trans h2 (Nat.dvd_mul_right _ _)
      omega
    · exact z
theorem out_two {n l0 l t u : Int} (h : Out n 2 l0 t) (i : Inn 2 l0 l u) (hl : 1 ≤ l) (h0 : 1 ≤ l0) (hs : l0 ≤ 1000000000) (ht : 1 ≤ t) (hb : 2 * 2 ≤ l0) (nz : ¬ Int.fmod l 2 = 0) :
    Out n 3 l (t * u) := by
  have m := out_mid h i (by decide) hl h0 hs ht hb nz
  exact ⟨m, Or.inr ⟨by decide, odd_of h i (by decide) hl h0 nz⟩⟩
theorem out_odd {n p l0 l t u : Int} (h : Out n p l0 t) (i : Inn p l0 l u) (hp : 2 ≤ p) (hl : 1 ≤ l) (h0 : 1 ≤ l0) (hs : l0 ≤ 1000000000) (ht : 1 ≤ t) (hb : p * p ≤ l0) (nz : ¬ Int.fmod l p = 0) (n2 : ¬ p = 2) :
    Out n (p + 2) l (t * u) := by
  have m := out_mid h i hp hl h0 hs ht hb nz
  have o := odd_of h i hp hl h0 nz
  have r := root hb hs
  have po : p % 2 = 1 := by rcases h.par with e | ⟨e, _⟩ <;> omega
  have k : 40001 - p.toNat = (39999 - p.toNat) + 2 := by omega
  rw [k, skip_even (by omega) (by omega)] at m
  refine ⟨?_, Or.inr ⟨by omega, o⟩⟩
  have k2 : 40002 - (p + 2).toNat = 39999 - p.toNat + 1 := by omega
  have k3 : (p + 2).toNat = p.toNat + 1 + 1 := by omega
  rw [k2, k3]
  exact m
theorem out_start {n : Int} (h : 1 ≤ n) : Out n 2 n 1 := by
  refine ⟨?_, Or.inl rfl⟩
  show totalFrom 40000 2 n.toNat 1 = totalOf n.toNat
  unfold totalOf
  rw [if_neg (by omega)]
theorem out_one {n p l t : Int} (h : Out n p l t) (hp : 2 ≤ p) (hb : p ≤ 31624) (ht : 1 ≤ t) (hl : ¬ 1 < l) : t = tot n := by
  have q := h.eq
  have k : 40002 - p.toNat = (40001 - p.toNat) + 1 := by omega
  rw [k, end_one (by omega)] at q
  unfold tot
  omega
theorem out_prime {n p l t : Int} (h : Out n p l t) (hp : 2 ≤ p) (hb : p ≤ 31624) (ht : 1 ≤ t) (hl : 1 < l) (hx : ¬ p * p ≤ l) : t * (l + 1) = tot n := by
  have q := h.eq
  have k : 40002 - p.toNat = (40001 - p.toNat) + 1 := by omega
  have bb : l.toNat < p.toNat * p.toNat := by
    rw [← Int.toNat_mul (by omega) (by omega)]
    omega
  rw [k, end_prime (by omega) bb] at q
  unfold tot
  rw [← q]
  push_cast
  rw [Int.toNat_of_nonneg (by omega), Int.toNat_of_nonneg (by omega)]
end Dv

namespace Dv
theorem w_out_start {n : Int} (h : 1 ≤ n) : (2:Int) ≤ 2 ∧ (2:Int) ≤ 31624 ∧ 1 ≤ n ∧ n ≤ n ∧ (1:Int) ≤ 1 ∧ Out n 2 n 1 :=
  ⟨by decide, by decide, h, Int.le_refl _, by decide, out_start h⟩
theorem w_inn_start {p l : Int} (h : 1 ≤ l) : 1 ≤ l ∧ l ≤ l ∧ (1:Int) ≤ 1 ∧ (1:Int) ≤ 2000000000 ∧ Inn p l l 1 :=
  ⟨h, Int.le_refl _, by decide, by decide, inn_start p l⟩
theorem w_inn_turn {p l0 l t : Int} (h : Inn p l0 l t) (hp : 2 ≤ p) (hl : 1 ≤ l) (hl0 : l ≤ l0) (h0 : l0 ≤ 1000000000) (z : Int.fmod l p = 0) :
    1 ≤ Int.fdiv l p ∧ Int.fdiv l p ≤ l0 ∧ 1 ≤ t * p + 1 ∧ t * p + 1 ≤ 2000000000 ∧ Inn p l0 (Int.fdiv l p) (t * p + 1) := by
  obtain ⟨a, b, c, d, e⟩ := inn_turn h hp hl h0 z
  exact ⟨a, by omega, c, d, e⟩
theorem less {p l0 l t : Int} (h : Inn p l0 l t) (hp : 2 ≤ p) (hl : 1 ≤ l) (z : Int.fmod l p = 0) : (Int.fdiv l p).toNat < l.toNat := by
  have dv : p * Int.fdiv l p = l := by
    have := Int.mul_fdiv_add_fmod l p
    omega
  have q0 : 0 ≤ Int.fdiv l p := Int.fdiv_nonneg (by omega) (by omega)
  have : 2 * Int.fdiv l p ≤ p * Int.fdiv l p := Int.mul_le_mul_of_nonneg_right hp q0
  omega
theorem w_out_two {n p l0 l t u : Int} (h : Out n p l0 t) (i : Inn p l0 l u) (e : p = 2) (hl : 1 ≤ l) (h0 : l ≤ l0) (hn : l0 ≤ n) (hs : n ≤ 1000000000) (ht : 1 ≤ t) (hu : 1 ≤ u) (hb : p * p ≤ l0) (nz : ¬ Int.fmod l p = 0) :
    (2:Int) ≤ 3 ∧ (3:Int) ≤ 31624 ∧ 1 ≤ l ∧ l ≤ n ∧ 1 ≤ t * u ∧ Out n 3 l (t * u) := by
  subst e
  have m : 1 * 1 ≤ t * u := Int.mul_le_mul ht hu (by decide) (by omega)
  exact ⟨by decide, by decide, hl, by omega, by omega, out_two h i hl (by omega) (by omega) ht hb nz⟩
theorem w_out_odd {n p l0 l t u : Int} (h : Out n p l0 t) (i : Inn p l0 l u) (hp : 2 ≤ p) (hl : 1 ≤ l) (h0 : l ≤ l0) (hn : l0 ≤ n) (hs : n ≤ 1000000000) (ht : 1 ≤ t) (hu : 1 ≤ u) (hb : p * p ≤ l0) (nz : ¬ Int.fmod l p = 0) (n2 : ¬ p = 2) :
    2 ≤ p + 2 ∧ p + 2 ≤ 31624 ∧ 1 ≤ l ∧ l ≤ n ∧ 1 ≤ t * u ∧ Out n (p + 2) l (t * u) := by
  have m : 1 * 1 ≤ t * u := Int.mul_le_mul ht hu (by decide) (by omega)
  have r := root hb (by omega)
  exact ⟨by omega, by omega, hl, by omega, by omega, out_odd h i hp hl (by omega) (by omega) ht hb nz n2⟩
end Dv

namespace Dv
open Sv81Neutral
theorem poor {c v : Int} (e : v = tot c) (h : ¬ v > 2 * c) : isRich c.toNat = false := by
  unfold tot at e
  unfold isRich
  rw [decide_eq_false_iff_not]
  omega
theorem rich {c v : Int} (h0 : 0 ≤ c) (e : v = tot c) (h : v > 2 * c) : isRich c.toNat = true := by
  unfold tot at e
  unfold isRich
  rw [decide_eq_true_iff]
  omega
/-- the specification's own test at a number -/
def both (n x : Nat) : Bool := isRich x && isRich (n - x)
/-- no number below c is the lesser of two -/
structure Tn (n c : Int) : Prop where
  none : ∀ x : Nat, (x : Int) < c → both n.toNat x = false
theorem zero_poor : isRich 0 = false := by decide
theorem tn_one (n : Int) : Tn n 1 := ⟨fun x h => by
  have : x = 0 := by omega
  subst this
  unfold both
  rw [zero_poor]
  rfl⟩
theorem tn_next {n c : Int} (h : Tn n c) (b : both n.toNat c.toNat = false) : Tn n (c + 1) := ⟨fun x hx => by
  rcases Int.lt_or_le (x : Int) c with q | q
  · exact h.none x q
  · have : x = c.toNat := by omega
    rw [this]
    exact b⟩
theorem both_left {n c v : Int} (e : v = tot c) (h : ¬ v > 2 * c) : both n.toNat c.toNat = false := by
  unfold both
  rw [poor e h]
  rfl
theorem both_right {n c v : Int} (hc : 0 ≤ c) (hn : c ≤ n) (e : v = tot (n - c)) (h : ¬ v > 2 * (n - c)) : both n.toNat c.toNat = false := by
  unfold both
  have k : (n - c).toNat = n.toNat - c.toNat := by omega
  have p := poor e h
  rw [k] at p
  rw [p, Bool.and_false]
theorem both_yes {n c v u : Int} (hc : 0 ≤ c) (hn : c ≤ n) (e : v = tot c) (h : v > 2 * c) (e2 : u = tot (n - c)) (h2 : u > 2 * (n - c)) : both n.toNat c.toNat = true := by
  unfold both
  have k : (n - c).toNat = n.toNat - c.toNat := by omega
  have p := rich (by omega) e2 h2
  rw [k] at p
  rw [rich hc e h, p]
  rfl
theorem find_at {t : Nat → Bool} : ∀ {m a : Nat}, a < m → t a = true → (∀ x, x < a → t x = false) → (List.range m).find? t = some a := by
  intro m a h1 h2 h3
  rw [List.find?_range_eq_some]
  exact ⟨h2, by simpa using h1, fun x hx => by rw [h3 x hx]; rfl⟩
theorem two_no {n : Int} (h : ¬ (1 ≤ n ∧ n ≤ 1000000)) : PySv81.two n = [-2] := by
  have e : Sv81.within n 1 1000000 = false := by
    simp only [Sv81.within, ← Bool.decide_and, decide_eq_false_iff_not]
    exact h
  simp [PySv81.two, f, on, e]
theorem two_is {n c : Int} (h : Tn n c) (b : both n.toNat c.toNat = true) (h1 : 1 ≤ n) (h2 : n ≤ 1000000) (hc : 0 ≤ c) (hl : 2 * c ≤ n) : PySv81.two n = [c] := by
  have e : Sv81.within n 1 1000000 = true := by simp [Sv81.within, h1, h2]
  have q : twoOf n.toNat = some c.toNat := find_at (by omega) b (fun x hx => h.none x (by omega))
  simp only [PySv81.two, f, on, e, q]
  simp
  omega
theorem two_none {n c : Int} (h : Tn n c) (h1 : 1 ≤ n) (h2 : n ≤ 1000000) (hl : n < 2 * c) : PySv81.two n = [-5] := by
  have e : Sv81.within n 1 1000000 = true := by simp [Sv81.within, h1, h2]
  have q : twoOf n.toNat = none := by
    unfold twoOf
    rw [List.find?_eq_none]
    intro x hx
    have hx := List.mem_range.mp hx
    have := h.none x (by omega)
    unfold both at this
    rw [this]
    decide
  simp only [PySv81.two, f, on, e, q]
  simp
theorem rich945 : ∀ j : Fin 531, isRich (945 * (2 * j.val + 1)) = true := by decide +kernel
theorem next_is {odd : Nat} : ∀ {k m t : Nat}, m ≤ t → t < m + k → (odd = 0 ∨ t % 2 = 1) → isRich t = true →
    (∀ x, m ≤ x → x < t → (odd = 0 ∨ x % 2 = 1) → isRich x = false) → nextFrom odd k m = t
  | 0, m, t, h1, h2, _, _, _ => by omega
  | k + 1, m, t, h1, h2, hp, hr, hn => by
    unfold nextFrom
    by_cases e : m = t
    · subst e
      rw [if_pos ⟨hp, hr⟩]
    · rw [if_neg (fun c => by
        have := hn m (Nat.le_refl _) (by omega) c.1
        rw [this] at c
        exact nomatch c.2)]
      exact next_is (by omega) (by omega) hp hr (fun x a b c => hn x (by omega) b c)
/-- what the walk behind a number has seen: none of them is rich -/
structure Nx (start gap found : Int) : Prop where
  par : gap = 1 ∨ (gap = 2 ∧ start % 2 = 1 ∧ found % 2 = 1)
  none : ∀ x : Nat, start ≤ (x : Int) → (x : Int) < found → (gap = 1 ∨ x % 2 = 1) → isRich x = false
theorem nx_start {start gap : Int} (h : gap = 1 ∨ (gap = 2 ∧ start % 2 = 1)) : Nx start gap start :=
  ⟨by omega, fun x a b _ => by omega⟩
end Dv
namespace Dv
open PySem PySem.W PySem.Calls PyProof.Rows
theorem told1 {a : Int} {l : List Int} (h : l = [a]) : ofPy (PyData.list [PyData.int a]) = WData.list (l.map WData.int) := by
  subst h
  exact os_list (ys := [a]) rfl
theorem w_nx_turn {start gap c : Int} (h : Nx start gap c) (np : Sv81Neutral.isRich c.toNat = false) (h1 : 1 ≤ start) (h2 : start ≤ 1000002) (h3 : start ≤ c) (h4 : c ≤ start + 1890) :
    1 ≤ start ∧ start ≤ 1000002 ∧ start ≤ c + gap ∧ c + gap ≤ start + 1890 ∧ Nx start gap (c + gap) := by
  have hp := h.par
  have nn : ∀ x : Nat, start ≤ (x : Int) → (x : Int) < c + gap → (gap = 1 ∨ x % 2 = 1) → Sv81Neutral.isRich x = false := by
    intro x a b d
    rcases Int.lt_or_le (x : Int) c with q | q
    · exact h.none x a q d
    · have : x = c.toNat := by omega
      rw [this]
      exact np
  refine ⟨h1, h2, by omega, ?_, by omega, nn⟩
  have hj : (start.toNat + 944) / 1890 < 531 := by omega
  have r := rich945 ⟨(start.toNat + 944) / 1890, hj⟩
  have k := nn (945 * (2 * ((start.toNat + 944) / 1890) + 1)) (by omega)
  rcases Int.lt_or_le (start + 1890) (c + gap) with q | q
  · have := k (by omega) (by omega)
    rw [this] at r
    exact nomatch r
  · exact q
theorem w_nx_one {start : Int} (h : 1 ≤ start) (h2 : start ≤ 1000002) : 1 ≤ start ∧ start ≤ 1000002 ∧ start ≤ start ∧ start ≤ start + 1890 ∧ Nx start 1 start :=
  ⟨by omega, by omega, by omega, by omega, nx_start (Or.inl rfl)⟩
/-- part is rich, and no number below it is the lesser of two -/
structure Tw (n p : Int) : Prop where
  tn : Tn n p
  rich : Sv81Neutral.isRich p.toNat = true
theorem bl {n x : Nat} (h : Sv81Neutral.isRich x = false) : both n x = false := by
  unfold both
  rw [h]
  rfl
theorem br {n c : Int} (h : Sv81Neutral.isRich (n - c).toNat = false) (hc : 0 ≤ c) (hn : c ≤ n) : both n.toNat c.toNat = false := by
  unfold both
  have k : (n - c).toNat = n.toNat - c.toNat := by omega
  rw [k] at h
  rw [h, Bool.and_false]
theorem by2 {n c : Int} (g : Sv81Neutral.isRich c.toNat = true) (h : Sv81Neutral.isRich (n - c).toNat = true) (hc : 0 ≤ c) (hn : c ≤ n) : both n.toNat c.toNat = true := by
  unfold both
  have k : (n - c).toNat = n.toNat - c.toNat := by omega
  rw [k] at h
  rw [g, h]
  rfl
theorem w_tw_start {n c : Int} (h : Nx 1 1 c) (r : Sv81Neutral.isRich c.toNat = true) (h1 : 1 ≤ c) (h2 : c ≤ 1 + 1890) : 1 ≤ c ∧ c ≤ 502000 ∧ Tw n c := by
  refine ⟨h1, by omega, ⟨fun x hx => ?_⟩, r⟩
  rcases Nat.eq_zero_or_pos x with z | z
  · subst z
    exact bl zero_poor
  · exact bl (h.none x (by omega) hx (Or.inl rfl))
theorem w_tw_turn {n p c : Int} (t : Tw n p) (h : Nx (p + 1) 1 c) (r : Sv81Neutral.isRich c.toNat = true) (q : Sv81Neutral.isRich (n - p).toNat = false) (h0 : 1 ≤ p) (hn : p ≤ n - p) (h9 : n ≤ 1000000) (h1 : p + 1 ≤ c) (h2 : c ≤ p + 1 + 1890) : 1 ≤ c ∧ c ≤ 502000 ∧ Tw n c := by
  refine ⟨by omega, by omega, ⟨fun x hx => ?_⟩, r⟩
  rcases Int.lt_or_le (x : Int) p with z | z
  · exact t.tn.none x z
  · rcases Int.lt_or_le p (x : Int) with y | y
    · exact bl (h.none x (by omega) hx (Or.inl rfl))
    · have : x = p.toNat := by omega
      rw [this]
      exact br q (by omega) (by omega)
theorem w_two_is {n p : Int} (t : Tw n p) (q : Sv81Neutral.isRich (n - p).toNat = true) (h1 : 1 ≤ n) (h2 : n ≤ 1000000) (h0 : 1 ≤ p) (hn : p ≤ n - p) : PySv81.two n = [p] :=
  two_is t.tn (by2 t.rich q (by omega) (by omega)) h1 h2 (by omega) (by omega)
theorem w_two_none {n p : Int} (t : Tw n p) (h1 : 1 ≤ n) (h2 : n ≤ 1000000) (hn : ¬ p ≤ n - p) : PySv81.two n = [-5] :=
  two_none t.tn h1 h2 (by omega)
section
variable {prog : Program} {w : World} {A : Around} {E : Value → Shared → Prop} {s : Shared} {x : Int} {t u : Tok} {Q : Value → Shared → Prop}
theorem step_rich {v n : Int} (e : v = tot n) (h0 : 0 ≤ n) (h1 : Sv81Neutral.isRich n.toNat = true → 2 * n < v → Q (.bool true) s) (h2 : Sv81Neutral.isRich n.toNat = false → ¬ 2 * n < v → Q (.bool false) s) :
    wpAny (model prog w) A (compareOp .Gt (.int v t) (.int (2 * n) u)) Q E s := by
  refine PyProof.Rows.gt_int ?_
  by_cases c : 2 * n < v
  · rw [decide_eq_true c]
    exact h1 (rich h0 e (by omega)) c
  · rw [decide_eq_false c]
    exact h2 (poor e (by omega)) c
end
end Dv

open PySem PySem.W PyProof.Rows
local macro_rules | `(tactic| walk_at "compareOp Gt int int") => `(tactic| (k_here; (with_reducible refine' Dv.step_rich ?e ?z ?_ ?_); (case e => k_dflt (first | exact (Dv.out_prime (by assumption) (by omega) (by omega) (by omega) (by omega) (by omega)) | exact (Dv.out_one (by assumption) (by omega) (by omega) (by omega) (by omega)))); (case z => k_dflt omega); all_goals intro hr' hv'))
theorem Dv.said : PySem.Challenge.rw_divisorrows_s07_two.wellSaid = true := by decide +kernel
set_option maxRecDepth 100000 in
set_option maxHeartbeats 8000000 in
theorem PySem.Challenge.cw_divisorrows_s07_two_holds : PySem.Challenge.rw_divisorrows_s07_two.Holds := by
  k_with "state" => k_dflt (first
    | exact Dv.w_out_start (by omega)
    | exact Dv.w_inn_start (by omega)
    | exact Dv.w_inn_turn (by assumption) (by omega) (by omega) (by omega) (by omega) (by omega)
    | exact Dv.w_out_two (by assumption) (by assumption) (by omega) (by omega) (by omega) (by omega) (by omega) (by omega) (by omega) (by omega) (by omega)
    | exact Dv.w_out_odd (by assumption) (by assumption) (by omega) (by omega) (by omega) (by omega) (by omega) (by omega) (by omega) (by omega) (by omega) (by omega)
    | exact Dv.w_nx_one (by omega) (by omega)
    | exact Dv.w_nx_turn (by assumption) (by assumption) (by omega) (by omega) (by omega) (by omega)
    | exact Dv.w_tw_start (by assumption) (by assumption) (by omega) (by omega)
    | exact Dv.w_tw_turn (by assumption) (by assumption) (by assumption) (by assumption) (by omega) (by omega) (by omega) (by omega) (by omega))
  k_with "measure" => k_dflt (first
    | exact Dv.less (by assumption) (by omega) (by omega) (by omega)
    | omega)
  k_with "exec While Compare cons nil" => k_while_given ["n"] (fun n _ part => 1 ≤ part ∧ part ≤ 502000 ∧ Dv.Tw n part) (fun _ _ part => (1000000 - part).toNat) "part"
  k_with "exec While Compare cons nil" => k_while_given ["start", "gap"] (fun start gap _ found => 1 ≤ start ∧ start ≤ 1000002 ∧ start ≤ found ∧ found ≤ start + 1890 ∧ Dv.Nx start gap found) (fun start _ _ found => (start + 1891 - found).toNat) "found"
  k_with "exec While Compare cons nil" => k_while_given ["n"] (fun n _ product left factor => 2 ≤ factor ∧ factor ≤ 31624 ∧ 1 ≤ left ∧ left ≤ n ∧ 1 ≤ product ∧ Dv.Out n factor left product) (fun _ _ _ _ factor => 40000 - factor.toNat) "product" "left" "factor"
  k_with "exec While Compare cons nil" => k_while_given ["factor", "left!"] (fun factor left0 _ left pt => 1 ≤ left ∧ left ≤ left0 ∧ 1 ≤ pt ∧ pt ≤ 2000000000 ∧ Dv.Inn factor left0 left pt) (fun _ _ _ left _ => left.toNat) "left" "power_total"
  open_ks with [.int 0]
  all_goals (os_open Dv.said with a w q e; obtain ⟨n, u⟩ := a; have e1 := os_j_int (List.cons.inj e).1; subst e1; show _ = WData.list ((PySv81.two _).map WData.int))
  all_goals first
    | exact Dv.told1 (Dv.two_no (by omega))
    | exact Dv.told1 (Dv.w_two_none (by assumption) (by omega) (by omega) (by omega))
    | exact Dv.told1 (Dv.w_two_is (by assumption) (by assumption) (by omega) (by omega) (by omega) (by omega))
#print axioms PySem.Challenge.cw_divisorrows_s07_two_holds
