/-
  Frames as lists of bytes: a load's frame, the frame with which bytes begin, and all of them; there and back; torn; damaged. No condition; nothing of the program is named here.
-/
import Derived.Test.YtcdjbfapldepaaaDoorCrc
namespace Go.Proofs.YtcdjbfapldepaaaDoor

def frameL (x : List Int) : List Int := four x.length ++ (four (crc (four x.length)) ++ (x ++ four (crc x)))
def framesL (xs : List (List Int)) : List Int := xs.flatMap frameL
def flen (xs : List (List Int)) : Nat := (framesL xs).length
/-- Loads that can be put. -/
def Fits (xs : List (List Int)) : Prop := ∀ x ∈ xs, x.length ≤ 262144 ∧ U8 x

theorem frameL_len (x : List Int) : (frameL x).length = 12 + x.length := by simp [frameL, four_len]; omega
theorem frameL_u8 {x : List Int} (h : U8 x) : U8 (frameL x) := by
  intro y hy
  simp only [frameL, List.mem_append] at hy
  rcases hy with hy | hy | hy | hy
  · exact four_u8 _ y hy
  · exact four_u8 _ y hy
  · exact h y hy
  · exact four_u8 _ y hy
theorem framesL_nil : framesL [] = [] := rfl
theorem framesL_cons (x : List Int) (xs : List (List Int)) : framesL (x :: xs) = frameL x ++ framesL xs := by simp [framesL]
theorem framesL_append (xs ys : List (List Int)) : framesL (xs ++ ys) = framesL xs ++ framesL ys := by simp [framesL]
theorem framesL_snoc (xs : List (List Int)) (x : List Int) : framesL (xs ++ [x]) = framesL xs ++ frameL x := by simp [framesL]
theorem framesL_u8 {xs : List (List Int)} (h : ∀ x ∈ xs, U8 x) : U8 (framesL xs) := by
  intro y hy
  obtain ⟨x, hx, hy⟩ := List.mem_flatMap.1 hy
  exact frameL_u8 (h x hx) y hy
theorem flen_nil : flen [] = 0 := rfl
theorem flen_snoc (xs : List (List Int)) (x : List Int) : flen (xs ++ [x]) = flen xs + (12 + x.length) := by unfold flen; rw [framesL_snoc, List.length_append, frameL_len]
theorem flen_cons (x : List Int) (xs : List (List Int)) : flen (x :: xs) = 12 + x.length + flen xs := by unfold flen; rw [framesL_cons, List.length_append, frameL_len]
theorem flen_append (xs ys : List (List Int)) : flen (xs ++ ys) = flen xs + flen ys := by unfold flen; rw [framesL_append, List.length_append]

/-- The frame with which bytes begin: the load, how many bytes it has, and what keeps the bytes from it. -/
def takeL (b : List Int) : List Int × Nat × Int :=
  if b.length < 8 then ([], 0, 20)
  else if num (b.drop 4) ≠ crc (b.take 4) ∨ 262144 < num b then ([], 0, 21)
  else if b.length < 12 + num b then ([], 0, 20)
  else if num (b.drop (8 + num b)) ≠ crc ((b.drop 8).take (num b)) then ([], 0, 21)
  else ((b.drop 8).take (num b), 12 + num b, 0)

theorem takeL_nil : takeL [] = ([], 0, 20) := rfl

theorem takeL_facts (b : List Int) : ((takeL b).2.2 = 0 ∧ (takeL b).2.1 = 12 + (takeL b).1.length ∧ (takeL b).2.1 ≤ b.length ∧ (∀ y ∈ (takeL b).1, y ∈ b)) ∨
    (((takeL b).2.2 = 20 ∨ (takeL b).2.2 = 21) ∧ (takeL b).1 = [] ∧ (takeL b).2.1 = 0) := by
  unfold takeL
  split
  · right; simp
  · split
    · right; simp
    · split
      · right; simp
      · split
        · right; simp
        · left
          rename_i h1 _ h3 _
          have e : ((b.drop 8).take (num b)).length = num b := by rw [List.length_take, List.length_drop]; omega
          exact ⟨rfl, by simp only; rw [e], by simp only; omega, fun y hy => List.mem_of_mem_drop (List.mem_of_mem_take hy)⟩

def scan : Nat → List Int → List (List Int)
  | 0, _ => []
  | f + 1, l => if (takeL l).2.2 = 0 then (takeL l).1 :: scan f (l.drop (takeL l).2.1) else []

theorem scan_fuel : ∀ (f g : Nat) (l : List Int), l.length ≤ f → l.length ≤ g → scan f l = scan g l := by
  intro f
  induction f with
  | zero =>
    intro g l hf _
    obtain rfl : l = [] := List.eq_nil_of_length_eq_zero (by omega)
    cases g with
    | zero => rfl
    | succ g => simp [scan, takeL_nil]
  | succ f ih =>
    intro g l hf hg
    cases g with
    | zero =>
      obtain rfl : l = [] := List.eq_nil_of_length_eq_zero (by omega)
      simp [scan, takeL_nil]
    | succ g =>
      simp only [scan]
      split
      · rename_i h0
        have ff := takeL_facts l
        have hk : 12 ≤ (takeL l).2.1 ∧ (takeL l).2.1 ≤ l.length := by omega
        rw [ih g _ (by rw [List.length_drop]; omega) (by rw [List.length_drop]; omega)]
      · rfl

def loads (b : List Int) : List (List Int) := scan b.length b
/-- What is still to come behind place p of b. -/
def after (b : List Int) (p : Nat) : List (List Int) := scan (b.length - p) (b.drop p)
/-- What is told of the place behind the last one. -/
def errAt (b : List Int) : Int := if flen (loads b) = b.length then 0 else (takeL (b.drop (flen (loads b)))).2.2

theorem after_zero (b : List Int) : after b 0 = loads b := by simp [after, loads]
theorem after_ok {b x : List Int} {p n : Nat} (hf : takeL (b.drop p) = (x, n, 0)) : n = 12 + x.length ∧ p + n ≤ b.length ∧ (∀ y ∈ x, y ∈ b) ∧ after b p = x :: after b (p + n) := by
  have ff := takeL_facts (b.drop p)
  rw [hf] at ff
  simp only [List.length_drop] at ff
  rcases ff with ⟨_, f2, f3, f4⟩ | ⟨f1, _⟩
  · refine ⟨f2, by omega, fun y hy => List.mem_of_mem_drop (f4 y hy), ?_⟩
    unfold after
    obtain ⟨m, hm⟩ : ∃ m, b.length - p = m + 1 := ⟨b.length - p - 1, by omega⟩
    rw [hm]
    simp only [scan, hf, if_true, List.drop_drop]
    rw [scan_fuel m (b.length - (p + n)) _ (by rw [List.length_drop]; omega) (by rw [List.length_drop]; omega)]
  · omega
theorem after_err {b x : List Int} {p n : Nat} {er : Int} (hf : takeL (b.drop p) = (x, n, er)) (he : er ≠ 0) : after b p = [] := by
  unfold after
  cases b.length - p with
  | zero => rfl
  | succ m => simp only [scan, hf]; rw [if_neg he]
theorem after_end {b : List Int} {p : Nat} (h : b.length ≤ p) : after b p = [] := by
  unfold after
  rw [Nat.sub_eq_zero_of_le h]
  rfl
theorem scan_flen : ∀ (f : Nat) (l : List Int), flen (scan f l) ≤ l.length := by
  intro f
  induction f with
  | zero => intro l; simp [scan, flen_nil]
  | succ f ih =>
    intro l
    simp only [scan]
    split
    · rename_i h0
      have ff := takeL_facts l
      rw [flen_cons]
      have := ih (l.drop (takeL l).2.1)
      rw [List.length_drop] at this
      omega
    · simp [flen_nil]
theorem loads_flen (b : List Int) : flen (loads b) ≤ b.length := scan_flen _ _
theorem loads_count : ∀ (xs : List (List Int)), 12 * xs.length ≤ flen xs := by
  intro xs
  induction xs with
  | nil => simp
  | cons x xs ih => rw [flen_cons, List.length_cons]; omega
theorem loads_len (b : List Int) : 12 * (loads b).length ≤ b.length := Nat.le_trans (loads_count _) (loads_flen b)

/- THERE AND BACK. -/
theorem num_append {l : List Int} (h : l.length = 4) (r : List Int) : num (l ++ r) = num l := by
  match l, h with
  | [a, b, c, d], _ => rfl
theorem drop_four {l : List Int} (h : l.length = 4) (r : List Int) : (l ++ r).drop 4 = r := by
  rw [List.drop_append, h]; simp [List.drop_of_length_le (Nat.le_of_eq h)]
theorem take_four {l : List Int} (h : l.length = 4) (r : List Int) : (l ++ r).take 4 = l := by
  rw [List.take_append, h]; simp [List.take_of_length_le (Nat.le_of_eq h)]

/-- A head that says n, then a load of n bytes, then four bytes. -/
theorem takeL_made {x s r : List Int} (hx : x.length ≤ 262144) (hs : s.length = 4) :
    takeL (four x.length ++ (four (crc (four x.length)) ++ (x ++ (s ++ r)))) = if num s ≠ crc x then ([], 0, 21) else (x, 12 + x.length, 0) := by
  generalize hb : four x.length ++ (four (crc (four x.length)) ++ (x ++ (s ++ r))) = b
  have hl : b.length = 12 + x.length + r.length := by rw [← hb]; simp [four_len, hs]; omega
  have hn : num b = x.length := by rw [← hb, num_append rfl, num_four (by omega)]
  have h4 : b.take 4 = four x.length := by rw [← hb, take_four rfl]
  have d4 : b.drop 4 = four (crc (four x.length)) ++ (x ++ (s ++ r)) := by rw [← hb, drop_four rfl]
  have d8 : b.drop 8 = x ++ (s ++ r) := by
    rw [show (8 : Nat) = 4 + 4 from rfl, ← List.drop_drop, d4, drop_four rfl]
  have dn : b.drop (8 + x.length) = s ++ r := by
    rw [← List.drop_drop, d8, List.drop_append, Nat.sub_self]; simp
  have hc := crc_lt (four_u8 x.length)
  unfold takeL
  rw [hn, h4, d4, d8, dn, num_append rfl, num_four hc, num_append hs, if_neg (by omega), if_neg (by simp; omega), if_neg (by omega)]
  have e : (x ++ (s ++ r)).take x.length = x := by simp
  rw [e]

theorem takeL_frame {x : List Int} (hx : x.length ≤ 262144) (hu : U8 x) (r : List Int) : takeL (frameL x ++ r) = (x, 12 + x.length, 0) := by
  have h := takeL_made (x := x) (s := four (crc x)) (r := r) hx rfl
  rw [num_four (crc_lt hu), if_neg (by simp)] at h
  rw [← h]
  simp [frameL]

theorem after_frames {xs : List (List Int)} (h : Fits xs) : ∀ (r : List Int) (f : Nat), (framesL xs ++ r).length ≤ f → scan f (framesL xs ++ r) = xs ++ scan r.length r := by
  induction xs with
  | nil => intro r f hf; simp only [framesL_nil, List.nil_append] at *; exact scan_fuel _ _ _ hf (Nat.le_refl _)
  | cons x xs ih =>
    intro r f hf
    have hx := h x (by simp)
    have hlen : (framesL (x :: xs) ++ r).length = 12 + x.length + (framesL xs ++ r).length := by
      rw [framesL_cons]; simp [frameL_len]
    obtain ⟨m, rfl⟩ : ∃ m, f = m + 1 := ⟨f - 1, by omega⟩
    have e : framesL (x :: xs) ++ r = frameL x ++ (framesL xs ++ r) := by rw [framesL_cons, List.append_assoc]
    simp only [scan]
    rw [e, takeL_frame hx.1 hx.2]
    have d : (frameL x ++ (framesL xs ++ r)).drop (12 + x.length) = framesL xs ++ r := by
      rw [List.drop_append, frameL_len, Nat.sub_self]; simp [List.drop_of_length_le (Nat.le_of_eq (frameL_len x))]
    simp only [if_true, d, List.cons_append]
    rw [ih (fun y hy => h y (by simp [hy])) r m (by omega)]

theorem loads_frames {xs : List (List Int)} (h : Fits xs) (r : List Int) : loads (framesL xs ++ r) = xs ++ loads r := after_frames h r _ (Nat.le_refl _)
theorem loads_err {r : List Int} (h : (takeL r).2.2 ≠ 0) : loads r = [] := by
  unfold loads
  cases r.length with
  | zero => rfl
  | succ m => simp only [scan]; rw [if_neg h]
theorem loads_all {xs : List (List Int)} (h : Fits xs) : loads (framesL xs) = xs := by
  have := loads_frames h []
  rw [List.append_nil] at this
  rw [this, loads_err (by rw [takeL_nil]; decide), List.append_nil]
theorem errAt_all {xs : List (List Int)} (h : Fits xs) : errAt (framesL xs) = 0 := by
  unfold errAt
  rw [loads_all h]
  exact if_pos rfl
/-- Frames, and then bytes that begin with none. -/
theorem broken {xs : List (List Int)} (h : Fits xs) {r : List Int} (hr : r ≠ []) (he : (takeL r).2.2 ≠ 0) : loads (framesL xs ++ r) = xs ∧ errAt (framesL xs ++ r) = (takeL r).2.2 := by
  have e : loads (framesL xs ++ r) = xs := by rw [loads_frames h, loads_err he, List.append_nil]
  refine ⟨e, ?_⟩
  unfold errAt
  rw [e]
  have hl : 0 < r.length := List.length_pos_iff.2 hr
  have d : (framesL xs ++ r).drop (flen xs) = r := by
    unfold flen
    simp
  rw [if_neg (by unfold flen; rw [List.length_append]; omega), d]

/- TORN. -/
theorem takeL_torn {x : List Int} (hx : x.length ≤ 262144) (r : List Int) {n : Nat} (hn : n < 12 + x.length) : takeL ((frameL x ++ r).take n) = ([], 0, 20) := by
  generalize hb : frameL x ++ r = b
  have hl : 12 + x.length ≤ b.length := by rw [← hb, List.length_append, frameL_len]; omega
  have hbl : (b.take n).length = n := by rw [List.length_take]; omega
  unfold takeL
  rw [hbl]
  by_cases h8 : n < 8
  · rw [if_pos h8]
  · have e4 : (b.take n).take 4 = four x.length := by
      rw [List.take_take, Nat.min_eq_left (by omega), ← hb]
      simp only [frameL, List.append_assoc]
      rw [take_four rfl]
    have hnum : num (b.take n) = x.length := by
      have : num (b.take n) = num ((b.take n).take 4) := by
        conv => lhs; rw [← List.take_append_drop 4 (b.take n)]
        rw [num_append (by rw [List.length_take, hbl]; omega)]
      rw [this, e4, num_four (by omega)]
    have e8 : ((b.take n).drop 4).take 4 = four (crc (four x.length)) := by
      rw [List.drop_take, List.take_take, Nat.min_eq_left (by omega), ← hb]
      simp only [frameL, List.append_assoc]
      rw [drop_four rfl, take_four rfl]
    have hsum : num ((b.take n).drop 4) = crc (four x.length) := by
      have : num ((b.take n).drop 4) = num (((b.take n).drop 4).take 4) := by
        conv => lhs; rw [← List.take_append_drop 4 ((b.take n).drop 4)]
        rw [num_append (by rw [List.length_take, List.length_drop, hbl]; omega)]
      rw [this, e8, num_four (crc_lt (four_u8 _))]
    rw [if_neg h8, hnum, hsum, e4, if_neg (by simp; omega), if_pos (by omega)]

/- DAMAGED. -/
theorem bytesOf_len : ∀ (n E : Nat), (bytesOf E n).length = n := by
  intro n
  induction n with
  | zero => intro E; rfl
  | succ n ih => intro E; simp [bytesOf, ih]
theorem mix_len : ∀ (l m : List Int), l.length = m.length → (mix l m).length = l.length := by
  intro l
  induction l with
  | nil => intro m h; cases m with | nil => rfl | cons _ _ => simp at h
  | cons a l ih =>
    intro m h
    cases m with
    | nil => simp at h
    | cons b m => simp [mix, ih m (by simpa using h)]
/-- What some bytes are with the bits of E turned. -/
def turned (l : List Int) (E : Nat) : List Int := mix l (bytesOf E l.length)
theorem turned_nil (E : Nat) : turned [] E = [] := rfl
theorem turned_cons (a : Int) (l : List Int) (E : Nat) : turned (a :: l) E = ((a.toNat ^^^ (E % 256) : Nat) : Int) :: turned l (E / 256) := by
  simp only [turned, List.length_cons, bytesOf, mix, Int.toNat_natCast]
theorem turned_len (l : List Int) (E : Nat) : (turned l E).length = l.length := mix_len _ _ (bytesOf_len _ _).symm
theorem turned_append : ∀ (l m : List Int) (E : Nat), turned (l ++ m) E = turned l E ++ turned m (E / 2 ^ (8 * l.length)) := by
  intro l
  induction l with
  | nil => intro m E; simp [turned_nil]
  | cons a l ih =>
    intro m E
    rw [List.cons_append, turned_cons, turned_cons, ih, List.cons_append]
    congr 3
    rw [List.length_cons, show 8 * (l.length + 1) = 8 + 8 * l.length by omega, Nat.pow_add, ← Nat.div_div_eq_div_mul]
theorem turned_same : ∀ (l : List Int) (E : Nat), U8 l → E % 2 ^ (8 * l.length) = 0 → turned l E = l := by
  intro l
  induction l with
  | nil => intro E _ _; rfl
  | cons a l ih =>
    intro E hu he
    have ha := hu a (by simp)
    rw [List.length_cons, show 8 * (l.length + 1) = 8 + 8 * l.length by omega, Nat.pow_add] at he
    have h1 : E % 256 = 0 := by
      have := congrArg (· % 2 ^ 8) he
      simp only [Nat.mod_mul_right_mod] at this
      simpa using this
    have h2 : E / 256 % 2 ^ (8 * l.length) = 0 := by
      have := Nat.mod_mul_right_div_self E (2 ^ 8) (2 ^ (8 * l.length))
      rw [he] at this
      simpa using this.symm
    rw [turned_cons, ih _ (fun x hx => hu x (by simp [hx])) h2, h1, Nat.xor_zero]
    congr 1
    omega
theorem turned_u8 : ∀ (l : List Int) (E : Nat), U8 l → U8 (turned l E) := by
  intro l
  induction l with
  | nil => intro E _; exact fun x hx => by cases hx
  | cons a l ih =>
    intro E hu
    rw [turned_cons]
    intro x hx
    have ha := hu a (by simp)
    rcases List.mem_cons.1 hx with rfl | hx
    · have : a.toNat ^^^ (E % 256) < 256 := Nat.xor_lt_two_pow (n := 8) (by omega) (by omega)
      omega
    · exact ih _ (fun x hx => hu x (by simp [hx])) x hx

theorem crc_turned (l : List Int) (E : Nat) : crc (turned l E) = crc l ^^^ reg 0 (bytesOf E l.length) := by
  unfold crc turned
  have := reg_mix l (bytesOf E l.length) 4294967295 0 (bytesOf_len _ _).symm
  rw [Nat.xor_zero] at this
  rw [this, Nat.xor_assoc]

theorem byte_of_num (n i : Nat) : (n / 2 ^ (8 * i) % 256) = (n >>> (8 * i)) % 2 ^ 8 := by rw [Nat.shiftRight_eq_div_pow]
theorem num_turned {n E : Nat} (hn : n < 4294967296) : num (turned (four n) E) = n ^^^ (E % 4294967296) := by
  have key : turned (four n) E = four (n ^^^ (E % 4294967296)) := by
    have x8 : ∀ a b : Nat, (a ^^^ b) / 256 = (a / 256) ^^^ (b / 256) := fun a b => Nat.xor_div_two_pow (n := 8)
    have x16 : ∀ a b : Nat, (a ^^^ b) / 65536 = (a / 65536) ^^^ (b / 65536) := fun a b => Nat.xor_div_two_pow (n := 16)
    have x24 : ∀ a b : Nat, (a ^^^ b) / 16777216 = (a / 16777216) ^^^ (b / 16777216) := fun a b => Nat.xor_div_two_pow (n := 24)
    have m8 : ∀ a b : Nat, (a ^^^ b) % 256 = (a % 256) ^^^ (b % 256) := fun a b => Nat.xor_mod_two_pow (n := 8)
    unfold four
    rw [turned_cons, turned_cons, turned_cons, turned_cons, turned_nil]
    rw [x8, x16, x24, m8, m8, m8, m8]
    simp only [Int.toNat_natCast]
    rw [show E % 4294967296 % 256 = E % 256 by omega, show E % 4294967296 / 256 % 256 = E / 256 % 256 by omega, show E % 4294967296 / 65536 % 256 = E / 256 / 256 % 256 by omega, show E % 4294967296 / 16777216 % 256 = E / 256 / 256 / 256 % 256 by omega]
  rw [key, num_four (Nat.xor_lt_two_pow (n := 32) hn (by omega))]

/-- A number whose bits lie within 32 one behind the other. -/
def Short (F : Nat) : Prop := ∃ d s, d < 4294967296 ∧ F = d * 2 ^ s
theorem Short.div {F : Nat} (h : Short F) {k : Nat} (hk : F % 2 ^ k = 0) : Short (F / 2 ^ k) := by
  obtain ⟨d, s, hd, rfl⟩ := h
  by_cases hs : k ≤ s
  · refine ⟨d, s - k, hd, ?_⟩
    rw [show s = k + (s - k) by omega, Nat.pow_add, Nat.mul_left_comm, Nat.mul_div_cancel_left _ (Nat.pow_pos (by decide))]
    rw [show k + (s - k) - k = s - k by omega]
  · refine ⟨d / 2 ^ (k - s), 0, Nat.lt_of_le_of_lt (Nat.div_le_self _ _) hd, ?_⟩
    have e : 2 ^ k = 2 ^ s * 2 ^ (k - s) := by rw [← Nat.pow_add]; congr 1; omega
    rw [e, ← Nat.div_div_eq_div_mul, Nat.mul_div_cancel _ (Nat.pow_pos (by decide))]
    simp

theorem xor_ne {a b c : Nat} (h : b ≠ c) : a ^^^ b ≠ a ^^^ c := by
  intro e
  apply h
  have := congrArg (a ^^^ ·) e
  simpa [← Nat.xor_assoc] using this

theorem takeL_damaged {x : List Int} (hx : x.length ≤ 262144) (hu : U8 x) (r : List Int) {F : Nat} (hF : Short F) (ht : F % 2 ^ (8 * (12 + x.length)) ≠ 0) :
    takeL (turned (frameL x ++ r) F) = ([], 0, 21) := by
  have h4 : (four x.length).length = 4 := rfl
  have e : turned (frameL x ++ r) F = turned (four x.length) F ++ (turned (four (crc (four x.length))) (F / 2 ^ 32) ++ (turned x (F / 2 ^ 64) ++ (turned (four (crc x)) (F / 2 ^ (64 + 8 * x.length)) ++ turned r (F / 2 ^ (96 + 8 * x.length))))) := by
    unfold frameL
    simp only [List.append_assoc]
    rw [turned_append, turned_append, turned_append, turned_append]
    simp only [four_len, Nat.div_div_eq_div_mul, ← Nat.pow_add]
    rw [show 8 * 4 + 8 * 4 = 64 from rfl, show 64 + 8 * x.length + 8 * 4 = 96 + 8 * x.length by omega]
  by_cases h64 : F % 2 ^ 64 = 0
  · have a1 : turned (four x.length) F = four x.length := turned_same _ _ (four_u8 _) (by
      rw [four_len]
      have := congrArg (· % 2 ^ 32) h64
      rw [show (2 : Nat) ^ 64 = 2 ^ 32 * 2 ^ 32 from rfl] at this
      simp only [Nat.mod_mul_right_mod] at this
      simpa using this)
    have a2 : turned (four (crc (four x.length))) (F / 2 ^ 32) = four (crc (four x.length)) := turned_same _ _ (four_u8 _) (by
      rw [four_len]
      have := Nat.mod_mul_right_div_self F (2 ^ 32) (2 ^ 32)
      rw [show (2 : Nat) ^ 32 * 2 ^ 32 = 2 ^ 64 from rfl, h64] at this
      simpa using this.symm)
    obtain ⟨d, s, hd, hG⟩ := hF.div h64
    have hG2 : (d * 2 ^ s) % 2 ^ (8 * x.length + 32) ≠ 0 := by
      rw [← hG]
      intro hz
      apply ht
      rw [show 8 * (12 + x.length) = 64 + (8 * x.length + 32) by omega, Nat.pow_add, Nat.mod_mul, h64, hz]
    have hb := burst x.length d s hd hG2
    rw [← hG] at hb
    have hm := takeL_made (x := turned x (F / 2 ^ 64)) (s := turned (four (crc x)) (F / 2 ^ (64 + 8 * x.length))) (r := turned r (F / 2 ^ (96 + 8 * x.length))) (by rw [turned_len]; exact hx) (by rw [turned_len]; rfl)
    rw [turned_len] at hm
    rw [e, a1, a2, hm, if_pos]
    rw [num_turned (crc_lt hu), crc_turned, Nat.pow_add, ← Nat.div_div_eq_div_mul]
    exact xor_ne (Ne.symm hb)
  · obtain ⟨d, s, hd, hG⟩ := hF
    have hb := burst 4 d s hd (by rw [← hG]; exact h64)
    rw [← hG] at hb
    rw [e]
    generalize hR : turned x (F / 2 ^ 64) ++ (turned (four (crc x)) (F / 2 ^ (64 + 8 * x.length)) ++ turned r (F / 2 ^ (96 + 8 * x.length))) = R
    have l1 : (turned (four x.length) F).length = 4 := by rw [turned_len]; rfl
    have l2 : (turned (four (crc (four x.length))) (F / 2 ^ 32)).length = 4 := by rw [turned_len]; rfl
    unfold takeL
    rw [if_neg (by simp [l1, l2]; omega), take_four l1, drop_four l1, num_append l2, num_turned (crc_lt (four_u8 _)), crc_turned, if_pos]
    exact .inl (xor_ne (Ne.symm hb))

/-- Frames of which the first bits that are turned lie in the one behind xs. -/
theorem loads_damaged {xs : List (List Int)} {x : List Int} (r : List Int) (h : Fits xs) (hx : x.length ≤ 262144) (hu : U8 x) {E : Nat} (hE : Short E) (h0 : E % 2 ^ (8 * flen xs) = 0) (h1 : E % 2 ^ (8 * (flen xs + (12 + x.length))) ≠ 0) :
    loads (turned (framesL xs ++ (frameL x ++ r)) E) = xs ∧ errAt (turned (framesL xs ++ (frameL x ++ r)) E) = 21 := by
  have hF := hE.div h0
  have ht : E / 2 ^ (8 * flen xs) % 2 ^ (8 * (12 + x.length)) ≠ 0 := by
    intro hz
    apply h1
    rw [Nat.mul_add, Nat.pow_add, Nat.mod_mul, h0, hz]
    simp
  have hT := takeL_damaged hx hu r hF ht
  rw [turned_append, turned_same _ _ (framesL_u8 fun y hy => (h y hy).2) h0]
  have hne : turned (frameL x ++ r) (E / 2 ^ (8 * flen xs)) ≠ [] := by
    intro hz
    have := congrArg List.length hz
    rw [turned_len, List.length_append, frameL_len] at this
    simp at this
  have hb := broken h hne (by rw [hT]; decide)
  unfold flen at *
  rw [hT] at hb
  exact hb

end Go.Proofs.YtcdjbfapldepaaaDoor
