/-
  Plain facts on the sum CRC-32C as a function on lists of bytes: a step of its register is linear under xor, eight steps of a byte are two table rows, a difference of at most 32 bits one behind the other is never the difference of a sum. No condition; nothing of the program is named here.
-/
import Derived.Test.YtcdjbfapldepaaaDoorMem
namespace Go.Proofs.YtcdjbfapldepaaaDoor

/-- One step of the register, on any natural number. -/
def step (r : Nat) : Nat := if r % 2 = 1 then (r / 2) ^^^ 2197175160 else r / 2

theorem xor_half (a b : Nat) : (a ^^^ b) / 2 = (a / 2) ^^^ (b / 2) := by
  have := Nat.xor_div_two_pow (a := a) (b := b) (n := 1)
  simpa using this
theorem xor_odd (a b : Nat) : (a ^^^ b) % 2 = (a % 2 + b % 2) % 2 := by
  have := Nat.xor_mod_two_pow (a := a) (b := b) (n := 1)
  simp only [Nat.pow_one] at this
  rw [this]
  have ha : a % 2 = 0 ∨ a % 2 = 1 := by omega
  have hb : b % 2 = 0 ∨ b % 2 = 1 := by omega
  rcases ha with ha | ha <;> rcases hb with hb | hb <;> rw [ha, hb] <;> decide
theorem xor4 (a b p : Nat) : (a ^^^ p) ^^^ (b ^^^ p) = a ^^^ b := by
  rw [Nat.xor_assoc, Nat.xor_comm p, Nat.xor_assoc b, Nat.xor_self, Nat.xor_zero]

theorem step_xor (a b : Nat) : step (a ^^^ b) = step a ^^^ step b := by
  unfold step
  rw [xor_half]
  have h := xor_odd a b
  have ha : a % 2 = 0 ∨ a % 2 = 1 := by omega
  have hb : b % 2 = 0 ∨ b % 2 = 1 := by omega
  rcases ha with ha | ha <;> rcases hb with hb | hb
  · rw [if_neg (by omega), if_neg (by omega), if_neg (by omega)]
  · rw [if_pos (by omega), if_neg (by omega), if_pos (by omega), Nat.xor_assoc]
  · rw [if_pos (by omega), if_pos (by omega), if_neg (by omega), Nat.xor_assoc, Nat.xor_assoc, Nat.xor_comm (b / 2)]
  · rw [if_neg (by omega), if_pos (by omega), if_pos (by omega), xor4]

theorem step_even (q : Nat) : step (2 * q) = q := by unfold step; rw [if_neg (by omega)]; omega

/-- n steps. -/
def steps : Nat → Nat → Nat
  | 0, r => r
  | n + 1, r => steps n (step r)

theorem steps_xor : ∀ (n a b : Nat), steps n (a ^^^ b) = steps n a ^^^ steps n b := by
  intro n
  induction n with
  | zero => intro a b; rfl
  | succ n ih => intro a b; simp only [steps]; rw [step_xor, ih]
theorem steps_even : ∀ (n q : Nat), steps n (2 ^ n * q) = q := by
  intro n
  induction n with
  | zero => intro q; simp [steps]
  | succ n ih => intro q; simp only [steps]; rw [Nat.pow_succ, Nat.mul_comm (2 ^ n) 2, Nat.mul_assoc, step_even, ih]
theorem steps_add : ∀ (n m r : Nat), steps (n + m) r = steps m (steps n r) := by
  intro n
  induction n with
  | zero => intro m r; simp [steps]
  | succ n ih => intro m r; rw [show n + 1 + m = (n + m) + 1 by omega]; simp only [steps]; exact ih m _
theorem steps_zero (n : Nat) : steps n 0 = 0 := by simpa using steps_even n 0

/-- What is above and what is below a power of two, one beside the other. -/
theorem split_xor (k a : Nat) : a = (a % 2 ^ k) ^^^ (2 ^ k * (a / 2 ^ k)) := by
  apply Nat.eq_of_testBit_eq
  intro i
  rw [Nat.testBit_xor, Nat.testBit_mod_two_pow, Nat.testBit_two_pow_mul, Nat.testBit_div_two_pow]
  by_cases h : i < k
  · simp [h, Nat.not_le.2 h]
  · simp [h]; rw [show i - k + k = i by omega, decide_eq_true (show k ≤ i by omega)]; simp

/-- n steps on a number: those on its low part, beside its high part. -/
theorem steps_split (n a : Nat) : steps n a = steps n (a % 2 ^ n) ^^^ (a / 2 ^ n) := by
  conv => lhs; rw [split_xor n a]
  rw [steps_xor, steps_even]

theorem step_lt {r : Nat} (h : r < 4294967296) : step r < 4294967296 := by
  unfold step
  split
  · exact Nat.xor_lt_two_pow (n := 32) (by omega) (by decide)
  · omega
theorem steps_lt : ∀ (n : Nat) {r : Nat}, r < 4294967296 → steps n r < 4294967296 := by
  intro n
  induction n with
  | zero => intro r h; exact h
  | succ n ih => intro r h; exact ih (step_lt h)
theorem step_ne {r : Nat} (h : r < 4294967296) (h0 : r ≠ 0) : step r ≠ 0 := by
  unfold step
  split
  · intro e
    have h1 : r / 2 = 2197175160 := by
      have := congrArg (· ^^^ 2197175160) e
      simpa [Nat.xor_assoc] using this
    omega
  · omega
theorem steps_ne : ∀ (n : Nat) {r : Nat}, r < 4294967296 → r ≠ 0 → steps n r ≠ 0 := by
  intro n
  induction n with
  | zero => intro r _ h; exact h
  | succ n ih => intro r h h0; exact ih (step_lt h) (step_ne h h0)

/- THE SUM. -/
/-- The register behind some bytes. -/
def reg (r : Nat) (l : List Int) : Nat := l.foldl (fun r c => steps 8 (r ^^^ c.toNat)) r
theorem reg_nil (r : Nat) : reg r [] = r := rfl
theorem reg_cons (r : Nat) (c : Int) (l : List Int) : reg r (c :: l) = reg (steps 8 (r ^^^ c.toNat)) l := rfl
def crc (l : List Int) : Nat := 4294967295 ^^^ reg 4294967295 l

theorem toNat_lt {c : Int} (h : 0 ≤ c ∧ c < 256) : c.toNat < 256 := by omega
theorem reg_lt : ∀ (l : List Int) {r : Nat}, r < 4294967296 → U8 l → reg r l < 4294967296 := by
  intro l
  induction l with
  | nil => intro r h _; exact h
  | cons c l ih =>
    intro r h hu
    refine ih (steps_lt 8 (Nat.xor_lt_two_pow (n := 32) h ?_)) (fun x hx => hu x (by simp [hx]))
    have := toNat_lt (hu c (by simp)); omega
theorem crc_lt {l : List Int} (hu : U8 l) : crc l < 4294967296 := Nat.xor_lt_two_pow (n := 32) (by decide) (reg_lt l (by decide) hu)
theorem reg_snoc : ∀ (l : List Int) (r : Nat) (c : Int), reg r (l ++ [c]) = steps 8 (reg r l ^^^ c.toNat) := by
  intro l
  induction l with
  | nil => intro r c; rfl
  | cons a l ih => intro r c; exact ih _ _

/- THE TABLES. -/
def low : List Nat := [0, 4067132163, 3778769143, 324072436, 3348797215, 904991772, 648144872, 3570033899, 2329499855, 2024987596, 1809983544, 2575936315, 1296289744, 3207089363, 2893594407, 1578318884]
def high : List Nat := [0, 274646895, 549293790, 820201905, 1098587580, 1361435347, 1640403810, 1905808397, 2197175160, 2460548119, 2722870694, 2987750089, 3280807620, 3553878443, 3811616794, 4084100981]
theorem low_is : ∀ i : Fin 16, steps 8 i.val = low.getD i.val 0 := by decide +kernel
theorem high_is : ∀ i : Fin 16, steps 8 (16 * i.val) = high.getD i.val 0 := by decide +kernel
theorem low_lt : ∀ i : Fin 16, low.getD i.val 0 < 4294967296 := by decide +kernel
theorem high_lt : ∀ i : Fin 16, high.getD i.val 0 < 4294967296 := by decide +kernel
theorem nib : ∀ i : Fin 256, (i.val &&& 15) = i.val % 16 := by decide +kernel

/-- What the program does with a byte. -/
theorem by_table (r c : Nat) (hc : c < 256) :
    steps 8 (r ^^^ c) = ((r / 256) ^^^ low.getD (((r % 256) ^^^ c) % 16) 0) ^^^ high.getD (((r % 256) ^^^ c) / 16) 0 := by
  have hx : (r % 256) ^^^ c < 256 := Nat.xor_lt_two_pow (n := 8) (by omega) (by omega)
  have e : r ^^^ c = ((r % 256) ^^^ c) ^^^ (2 ^ 8 * (r / 256)) := by
    have h1 : r = (r % 256) ^^^ (2 ^ 8 * (r / 256)) := split_xor 8 r
    conv => lhs; rw [h1]
    rw [Nat.xor_assoc, Nat.xor_comm _ c, ← Nat.xor_assoc]
  rw [e, steps_xor, steps_even]
  generalize hy : (r % 256) ^^^ c = y at hx
  have e2 : y = (y % 16) ^^^ (16 * (y / 16)) := split_xor 4 y
  conv => lhs; rw [e2]
  rw [steps_xor, low_is ⟨y % 16, by omega⟩, high_is ⟨y / 16, by omega⟩, Nat.xor_comm _ (r / 256), ← Nat.xor_assoc]

/- THE REFERENCE's EIGHT ROUNDS. -/
theorem by_bit (n r c : Nat) : steps (n + 1) (r ^^^ c) = steps n ((if c % 2 ≠ r % 2 then (r / 2) ^^^ 2197175160 else r / 2) ^^^ (c / 2)) := by
  simp only [steps]
  congr 1
  unfold step
  rw [xor_half]
  have h := xor_odd r c
  by_cases h1 : c % 2 = r % 2
  · rw [if_neg (by omega), if_neg (by simpa using h1)]
  · rw [if_pos (by omega), if_pos h1, Nat.xor_assoc, Nat.xor_comm (c / 2), Nat.xor_assoc]

/- FOUR BYTES. -/
def four (n : Nat) : List Int := [((n % 256 : Nat) : Int), ((n / 256 % 256 : Nat) : Int), ((n / 65536 % 256 : Nat) : Int), ((n / 16777216 % 256 : Nat) : Int)]
def num (l : List Int) : Nat := (l.getD 0 0).toNat + 256 * (l.getD 1 0).toNat + 65536 * (l.getD 2 0).toNat + 16777216 * (l.getD 3 0).toNat
theorem four_len (n : Nat) : (four n).length = 4 := rfl
theorem four_u8 (n : Nat) : U8 (four n) := by
  intro x hx
  simp [four] at hx
  rcases hx with rfl | rfl | rfl | rfl <;> omega
theorem num_four {n : Nat} (h : n < 4294967296) : num (four n) = n := by
  simp only [num, four, List.getD_cons_zero, List.getD_cons_succ, Int.toNat_natCast]
  omega
theorem four_num {l : List Int} (h : l.length = 4) (hu : U8 l) : four (num l) = l := by
  match l, h with
  | [a, b, c, d], _ =>
    have ha := hu a (by simp)
    have hb := hu b (by simp)
    have hc := hu c (by simp)
    have hd := hu d (by simp)
    simp only [num, four, List.getD_cons_zero, List.getD_cons_succ, List.cons.injEq, and_true]
    omega
theorem num_lt {l : List Int} (hu : U8 l) (h : l.length = 4) : num l < 4294967296 := by
  match l, h with
  | [a, b, c, d], _ =>
    have ha := hu a (by simp)
    have hb := hu b (by simp)
    have hc := hu c (by simp)
    have hd := hu d (by simp)
    simp only [num, List.getD_cons_zero, List.getD_cons_succ]
    omega
theorem num_inj {l m : List Int} (h : l.length = 4) (g : m.length = 4) (hu : U8 l) (hm : U8 m) (e : num l = num m) : l = m := by
  rw [← four_num h hu, ← four_num g hm, e]

/- A BURST. The bytes of a number, the lowest first. -/
def bytesOf (E : Nat) : Nat → List Int
  | 0 => []
  | n + 1 => ((E % 256 : Nat) : Int) :: bytesOf (E / 256) n
/-- Two lists of bytes, byte by byte. -/
def mix : List Int → List Int → List Int
  | a :: l, b :: m => ((a.toNat ^^^ b.toNat : Nat) : Int) :: mix l m
  | l, [] => l
  | [], _ => []

theorem reg_bytesOf : ∀ (n E r : Nat), reg r (bytesOf E n) ^^^ (E / 2 ^ (8 * n)) = steps (8 * n) (r ^^^ E) := by
  intro n
  induction n with
  | zero => intro E r; simp only [bytesOf, reg_nil, steps, Nat.mul_zero, Nat.pow_zero, Nat.div_one]
  | succ n ih =>
    intro E r
    simp only [bytesOf, reg_cons, Int.toNat_natCast]
    have e8 : E / 2 ^ (8 * (n + 1)) = E / 256 / 2 ^ (8 * n) := by
      rw [show 8 * (n + 1) = 8 + 8 * n by omega, Nat.pow_add, ← Nat.div_div_eq_div_mul]
    rw [e8, ih, show 8 * (n + 1) = 8 + 8 * n by omega, steps_add]
    refine congrArg (steps (8 * n)) ?_
    have e : r ^^^ E = (r ^^^ (E % 256)) ^^^ (2 ^ 8 * (E / 256)) := by
      have h1 : E = (E % 256) ^^^ (2 ^ 8 * (E / 256)) := split_xor 8 E
      conv => lhs; rw [h1]
      rw [Nat.xor_assoc]
    rw [e, steps_xor _ (r ^^^ (E % 256)), steps_even]

theorem reg_mix : ∀ (l m : List Int) (r s : Nat), l.length = m.length → reg (r ^^^ s) (mix l m) = reg r l ^^^ reg s m := by
  intro l
  induction l with
  | nil => intro m r s h; cases m with | nil => simp only [mix, reg_nil] | cons _ _ => simp at h
  | cons a l ih =>
    intro m r s h
    cases m with
    | nil => simp at h
    | cons b m =>
      simp only [mix, reg_cons, Int.toNat_natCast]
      rw [← ih m _ _ (by simpa using h), ← steps_xor]
      refine congrArg (fun x => reg (steps 8 x) (mix l m)) ?_
      rw [Nat.xor_assoc, Nat.xor_assoc, ← Nat.xor_assoc s a.toNat, Nat.xor_comm s a.toNat, Nat.xor_assoc]

/-- A difference that lies within 32 bits and touches what is looked at is seen. -/
theorem burst (n d s : Nat) (hd : d < 4294967296) (ht : (d * 2 ^ s) % 2 ^ (8 * n + 32) ≠ 0) : reg 0 (bytesOf (d * 2 ^ s) n) ≠ (d * 2 ^ s / 2 ^ (8 * n)) % 4294967296 := by
  intro h
  have h1 := reg_bytesOf n (d * 2 ^ s) 0
  rw [Nat.zero_xor, h] at h1
  generalize hF : d * 2 ^ s = F at h h1 ht
  have h2 : (F / 2 ^ (8 * n)) = ((F / 2 ^ (8 * n)) % 4294967296) ^^^ (2 ^ 32 * (F / 2 ^ (8 * n) / 2 ^ 32)) := split_xor 32 _
  have h3 : steps (8 * n) F = 2 ^ 32 * (F / 2 ^ (8 * n) / 2 ^ 32) := by
    rw [← h1]
    conv => lhs; rhs; rw [h2]
    rw [← Nat.xor_assoc, Nat.xor_self, Nat.zero_xor]
  have h4 : steps (8 * n + 32) F = F / 2 ^ (8 * n + 32) := by
    rw [steps_add, h3, steps_even, Nat.div_div_eq_div_mul, ← Nat.pow_add]
  have hs : s < 8 * n + 32 := by
    apply Classical.byContradiction
    intro hc
    apply ht
    rw [← hF]
    have e : 2 ^ s = 2 ^ (8 * n + 32) * 2 ^ (s - (8 * n + 32)) := by rw [← Nat.pow_add]; congr 1; omega
    rw [e, Nat.mul_left_comm, Nat.mul_mod_right]
  obtain ⟨m, hm⟩ : ∃ m, 8 * n + 32 = s + m := ⟨8 * n + 32 - s, by omega⟩
  rw [hm] at h4 ht
  have h5 : steps (s + m) F = steps m d := by rw [steps_add, ← hF, Nat.mul_comm, steps_even]
  have h6 : F / 2 ^ (s + m) = d / 2 ^ m := by
    rw [← hF, Nat.pow_add, ← Nat.div_div_eq_div_mul, Nat.mul_div_cancel _ (Nat.pow_pos (by decide))]
  rw [h5, h6, steps_split] at h4
  have h7 : steps m (d % 2 ^ m) = 0 := by
    have := congrArg (· ^^^ (d / 2 ^ m)) h4
    simpa [Nat.xor_assoc] using this
  have h8 : d % 2 ^ m ≠ 0 := by
    intro hz
    apply ht
    rw [← hF, Nat.pow_add, Nat.mul_comm d, Nat.mul_mod_mul_left, hz, Nat.mul_zero]
  exact steps_ne m (Nat.lt_of_le_of_lt (Nat.mod_le _ _) hd) h8 h7

end Go.Proofs.YtcdjbfapldepaaaDoor
