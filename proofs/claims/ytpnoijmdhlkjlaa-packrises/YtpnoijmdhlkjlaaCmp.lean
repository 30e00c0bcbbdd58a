/-
  What bytes.Compare returns, over any world, which it leaves as it is; and that forms of one size rise as their numbers do. The condition: each slice reads as bytes.
-/
import Derived.Test.YtpnoijmdhlkjlaaByt
import Derived.Lib.Bytealg
import Derived.Lib.BytesEntry
namespace Go.Proofs.Ytpnoijmdhlkjlaa
open Go.RowKit

theorem bytesOf_row {P : Program} {w : World} {v : Value} {l : List Int} (h : Row .u8 w v l) : (Extern.Bytes.bytesOf v).run P w = .ok ⟨(Lib.bytesOf l).toArray⟩ w := by
  obtain ⟨p, cap, rfl, h1, h2, h3, h4⟩ := id h
  cases hl : l with
  | nil =>
    cases p with
    | none => simp [Extern.Bytes.bytesOf, Lib.bytesOf]; rfl
    | some a => simp [Extern.Bytes.bytesOf, Extern.Bytes.loadBytes, Lib.bytesOf]; rfl
  | cons c r =>
    obtain ⟨b, o, rfl, hc⟩ := h4 (by rw [hl]; simp)
    rw [← hl]
    have hld := Lib.run_loadBytesX (P := P) w l ⟨b, o, none⟩ .empty (fun j x hj => by
      have hjl := (List.getElem?_eq_some_iff.1 hj).1
      rw [Go.WideShapes.add_plain, hc j hjl]
      simp [List.getD, hj])
    simp only [Extern.Bytes.bytesOf]
    rw [hld]
    simp

theorem Try.compare_run {w : World} {v1 v2 : Value} {l m : List Int} (h1 : Row .u8 w v1 l) (h2 : Row .u8 w v2 m) :
    (callFunc 48 #[v1, v2]).run Try.prog w = .ok (.value (.int .i64 (Lib.compareBytes (Lib.bytesOf l) (Lib.bytesOf m)))) w := by
  rw [run_callFunc_extern (e := Extern.BytealgCompare.compare) Try.func48 (by kernel_rfl) (by kernel_rfl) (by kernel_rfl) (by kernel_rfl)]
  have : (Extern.BytealgCompare.compare #[v1, v2]).run Try.prog w = .ok (.int .i64 (Lib.compareBytes (Lib.bytesOf l) (Lib.bytesOf m))) w := by
    change Sem.run Try.prog (do pure (goInt (Extern.BytealgCompare.cmp (← Extern.Bytes.bytesOf v1) (← Extern.Bytes.bytesOf v2)))) w = _
    simp only [Sem.run_bind, bytesOf_row h1, bytesOf_row h2, Sem.run_pure, Result.andThen, Lib.cmp_eq]
    rfl
  rw [this]
  rfl

set_option maxHeartbeats 400000 in
theorem compare_any {v1 v2 : Value} {l m : List Int} {w : World} (h1 : Row .u8 w v1 l) (h2 : Row .u8 w v2 m) :
    Calls Try.prog 32 #[v1, v2] w fun e w' => e = .returned (.int .i64 (Lib.compareBytes (Lib.bytesOf l) (Lib.bytesOf m))) ∧ w' = w := by
  have hr := Try.compare_run h1 h2
  clear h1 h2
  go_enter Try.func32, Try.ntmps32
  go_wp2
  go_ret
  exact ⟨rfl, rfl⟩

/- FORMS OF ONE SIZE RISE AS THEIR NUMBERS DO. -/
theorem cmp_snoc : ∀ (l m : List UInt8) (a b : UInt8), l.length = m.length → Lib.compareBytes (l ++ [a]) (m ++ [b]) = if Lib.compareBytes l m = 0 then Lib.compareBytes [a] [b] else Lib.compareBytes l m := by
  intro l
  induction l with
  | nil => intro m a b h; cases m with
    | nil => simp [Lib.compareBytes]
    | cons _ _ => simp at h
  | cons x l ih => intro m a b h; cases m with
    | nil => simp at h
    | cons y m =>
      simp only [List.cons_append, Lib.compareBytes]
      split
      · simp
      · split
        · simp
        · exact ih m a b (by simpa using h)

theorem cmp_one {x y : Nat} (hx : x < 256) (hy : y < 256) : (Lib.compareBytes (Lib.bytesOf [(x : Int)]) (Lib.bytesOf [(y : Int)]) = -1 ∧ x < y) ∨ (Lib.compareBytes (Lib.bytesOf [(x : Int)]) (Lib.bytesOf [(y : Int)]) = 0 ∧ x = y) ∨ (Lib.compareBytes (Lib.bytesOf [(x : Int)]) (Lib.bytesOf [(y : Int)]) = 1 ∧ y < x) := by
  simp only [Lib.bytesOf, List.map_cons, List.map_nil, Lib.compareBytes, UInt8.lt_iff_toNat_lt, Int.toNat_natCast, UInt8.toNat_ofNat']
  rw [Nat.mod_eq_of_lt (show x < 2 ^ 8 from hx), Nat.mod_eq_of_lt (show y < 2 ^ 8 from hy)]
  split
  · left; exact ⟨rfl, by assumption⟩
  · split
    · right; right; exact ⟨rfl, by assumption⟩
    · right; left; exact ⟨rfl, by omega⟩

theorem bytes_snoc (l : List Int) (x : Int) : Lib.bytesOf (l ++ [x]) = Lib.bytesOf l ++ Lib.bytesOf [x] := by simp [Lib.bytesOf]

def Three (c : Int) (u v : Nat) : Prop := (c = -1 ∧ u < v) ∨ (c = 0 ∧ u = v) ∨ (c = 1 ∧ v < u)

theorem three_snoc {l m : List Int} {u v x y q : Nat} (hl : l.length = m.length) (h : Three (Lib.compareBytes (Lib.bytesOf l) (Lib.bytesOf m)) (u / 128) (v / 128)) (hq : q + 128 ≤ 256) (hx : x = u % 128 + q) (hy : y = v % 128 + q) :
    Three (Lib.compareBytes (Lib.bytesOf (l ++ [(x : Int)])) (Lib.bytesOf (m ++ [(y : Int)]))) u v := by
  rw [bytes_snoc, bytes_snoc]
  have e1 : Lib.bytesOf [(x : Int)] = [UInt8.ofNat x] := by simp [Lib.bytesOf]
  have e2 : Lib.bytesOf [(y : Int)] = [UInt8.ofNat y] := by simp [Lib.bytesOf]
  have ho := cmp_one (x := x) (y := y) (by omega) (by omega)
  rw [e1, e2] at ho ⊢
  rw [cmp_snoc _ _ _ _ (by simpa [Lib.bytesOf] using hl)]
  rcases h with ⟨hc, h⟩ | ⟨hc, h⟩ | ⟨hc, h⟩
  · rw [hc, if_neg (by decide)]; left; exact ⟨rfl, by omega⟩
  · rw [hc, if_pos rfl]
    rcases ho with ⟨ho, g⟩ | ⟨ho, g⟩ | ⟨ho, g⟩
    · left; exact ⟨ho, by omega⟩
    · right; left; exact ⟨ho, by omega⟩
    · right; right; exact ⟨ho, by omega⟩
  · rw [hc, if_neg (by decide)]; right; right; exact ⟨rfl, by omega⟩

theorem hi_three : ∀ (n u v : Nat), u ≤ n → (hi u).length = (hi v).length → Three (Lib.compareBytes (Lib.bytesOf (hi u)) (Lib.bytesOf (hi v))) u v := by
  intro n
  induction n with
  | zero =>
    intro u v h hl
    obtain rfl : u = 0 := by omega
    by_cases hv : v = 0
    · subst hv; right; left; rw [hi_zero]; exact ⟨rfl, rfl⟩
    · rw [hi_zero, hi_pos (v := v) (by omega)] at hl; simp at hl
  | succ n ih =>
    intro u v h hl
    by_cases hu : u = 0
    · subst hu
      by_cases hv : v = 0
      · subst hv; right; left; rw [hi_zero]; exact ⟨rfl, rfl⟩
      · rw [hi_zero, hi_pos (v := v) (by omega)] at hl; simp at hl
    · by_cases hv : v = 0
      · subst hv; rw [hi_zero, hi_pos (v := u) (by omega)] at hl; simp at hl
      · rw [hi_pos (v := u) (by omega), hi_pos (v := v) (by omega)] at hl ⊢
        simp only [List.length_append, List.length_cons, List.length_nil] at hl
        exact three_snoc (q := 128) (by omega) (ih (u / 128) (v / 128) (by omega) (by omega)) (by omega) rfl rfl

theorem form_three {u v : Nat} (h : sz u = sz v) : Three (Lib.compareBytes (Lib.bytesOf (form u)) (Lib.bytesOf (form v))) u v := by
  unfold sz form at h
  simp only [List.length_append, List.length_cons, List.length_nil] at h
  unfold form
  exact three_snoc (q := 0) (by omega) (hi_three _ _ _ (Nat.le_refl _) (by omega)) (by omega) rfl rfl

end Go.Proofs.Ytpnoijmdhlkjlaa
