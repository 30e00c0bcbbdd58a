/-
  The numbers with which bytes begin, as a list; what the reference's Numbers and slices.Equal return, over any world, in which nothing that was there turns. The conditions: the slices read as data; the bytes are at most 1048576.
-/
import Derived.Test.YtpnoijmdhlkjlaaMth
import Derived.Test.YtpnoijmdhlkjlaaByt
import Derived.Deep.QuietTactic
import Derived.BigQuiet
namespace Go.Proofs.Ytpnoijmdhlkjlaa
open Go.RowKit

/-- The numbers with which l begins, each with the place behind it; p: the place where l begins. -/
def nums : Nat → Nat → List Int → List (Int × Nat)
  | 0, _, _ => []
  | f + 1, p, l => if (first l).2.2 = 0 then ((first l).1, p + (first l).2.1) :: nums f (p + (first l).2.1) (l.drop (first l).2.1) else []

theorem first_nil : first [] = (0, 0, 10) := rfl

/-- So much fuel as there are bytes is enough. -/
theorem nums_fuel : ∀ (f g p : Nat) (l : List Int), U8 l → l.length ≤ f → l.length ≤ g → nums f p l = nums g p l := by
  intro f
  induction f with
  | zero =>
    intro g p l _ hf _
    obtain rfl : l = [] := List.eq_nil_of_length_eq_zero (by omega)
    cases g with
    | zero => rfl
    | succ g => simp [nums, first_nil]
  | succ f ih =>
    intro g p l hu hf hg
    cases g with
    | zero =>
      obtain rfl : l = [] := List.eq_nil_of_length_eq_zero (by omega)
      simp [nums, first_nil]
    | succ g =>
      simp only [nums]
      split
      · rename_i h0
        have ff := first_facts hu
        have hk : 0 < (first l).2.1 ∧ (first l).2.1 ≤ l.length := by omega
        rw [ih g _ _ (hu.drop _) (by rw [List.length_drop]; omega) (by rw [List.length_drop]; omega)]
      · rfl

def numbers (l : List Int) : List (Int × Nat) := nums l.length 0 l

/-- What is still to come behind place p of b. -/
def after (b : List Int) (p : Nat) : List (Int × Nat) := nums (b.length - p) p (b.drop p)

theorem after_zero (b : List Int) : after b 0 = numbers b := by simp [after, numbers]
theorem after_ok {b : List Int} {p : Nat} {n : Int} {k : Nat} (hu : U8 b) (hf : first (b.drop p) = (n, k, 0)) : 0 < k ∧ p + k ≤ b.length ∧ after b p = (n, p + k) :: after b (p + k) := by
  have ff := first_facts (hu.drop p)
  rw [hf] at ff
  simp only [List.length_drop] at ff
  have hk : 0 < k ∧ k ≤ b.length - p := by omega
  refine ⟨hk.1, by omega, ?_⟩
  unfold after
  obtain ⟨m, hm⟩ : ∃ m, b.length - p = m + 1 := ⟨b.length - p - 1, by omega⟩
  rw [hm]
  simp only [nums, hf, if_true, List.drop_drop]
  rw [nums_fuel m (b.length - (p + k)) (p + k) _ (hu.drop _) (by rw [List.length_drop]; omega) (by rw [List.length_drop]; omega)]
theorem after_err {b : List Int} {p : Nat} {n er : Int} {k : Nat} (hf : first (b.drop p) = (n, k, er)) (he : er ≠ 0) : after b p = [] := by
  unfold after
  cases b.length - p with
  | zero => rfl
  | succ m => simp only [nums, hf]; rw [if_neg he]
theorem after_len : ∀ (f p : Nat) (l : List Int), (nums f p l).length ≤ f := by
  intro f
  induction f with
  | zero => intro p l; simp [nums]
  | succ f ih => intro p l; simp only [nums]; split <;> simp [ih]
theorem numbers_len (b : List Int) : (numbers b).length ≤ b.length := after_len _ _ _

theorem Try.infoI64 : (Try.prog.info? 2).map (fun i => (i.zero, i.size, i.bytes)) = some (some (.int .i64 0), 1, 8) := by kernel_rfl
theorem Try.infoInt : (Try.prog.info? 3).map (fun i => (i.zero, i.size, i.bytes)) = some (some (.int .i64 0), 1, 8) := by kernel_rfl

def fsts (l : List (Int × Nat)) : List Int := l.map (·.1)
def snds (l : List (Int × Nat)) : List Int := l.map fun x => (x.2 : Int)

theorem fsts_snoc (l : List (Int × Nat)) (x : Int × Nat) : fsts (l ++ [x]) = fsts l ++ [x.1] := by simp [fsts]
theorem snds_snoc (l : List (Int × Nat)) (x : Int × Nat) : snds (l ++ [x]) = snds l ++ [(x.2 : Int)] := by simp [snds]
theorem fsts_len (l : List (Int × Nat)) : (fsts l).length = l.length := by simp [fsts]
theorem snds_len (l : List (Int × Nat)) : (snds l).length = l.length := by simp [snds]

set_option maxHeartbeats 1000000 in
theorem equal64_any {v1 v2 : Value} {l m : List Int} {w : World} (h1 : Row .i64 w v1 l) (h2 : Row .i64 w v2 m) (hlm : l = m) :
    Calls Try.prog 21 #[v1, v2] w fun e w' => e = .returned (.bool true) ∧ Below w.heap.size w w' := by
  subst hlm
  obtain ⟨p, cap, rfl, g1, g2, g3, g4⟩ := h1
  obtain ⟨p', cap', rfl, f1, f2, f3, f4⟩ := h2
  have H1 : Hid (0 < l.length → ∃ b o, p = some ⟨b, o, none⟩ ∧ ∀ i, i < l.length → w.cell? ⟨b, o + i, none⟩ = some (.int .i64 (l.getD i 0))) := g4
  have H2 : Hid (0 < l.length → ∃ b o, p' = some ⟨b, o, none⟩ ∧ ∀ i, i < l.length → w.cell? ⟨b, o + i, none⟩ = some (.int .i64 (l.getD i 0))) := f4
  clear g3 g4 f3 f4
  have hne : (((l.length : Nat) : Int) != ((l.length : Nat) : Int)) = false := by simp
  go_enter Try.func21, Try.ntmps21
  go_wp2
  go_loopw [13] (fun i wr => ∃ k : Nat, k ≤ l.length ∧ i = .int .i64 (k : Int) ∧ Below w.heap.size w wr) (fun i _ => l.length - (intOf i).toNat)
  case atStart => exact ⟨0, Nat.zero_le _, rfl, Below.refl _ _⟩
  case round =>
    obtain ⟨k, hk, rfl, hbr⟩ := hrel
    by_cases hlt : k < l.length
    · obtain ⟨b1, o1, rfl, hc1⟩ := H1.out (by omega)
      obtain ⟨b2, o2, rfl, hc2⟩ := H2.out (by omega)
      obtain ⟨x, hx⟩ : ∃ x, x = l.getD k 0 := ⟨_, rfl⟩
      have d1 : wr.cell? ⟨b1, o1 + k, none⟩ = some (.int .i64 x) := by rw [hx]; exact cell_later hbr (hc1 k hlt)
      have d2 : wr.cell? ⟨b2, o2 + k, none⟩ = some (.int .i64 x) := by rw [hx]; exact cell_later hbr (hc2 k hlt)
      have i1 : (0 : Int) ≤ (k : Int) := by omega
      have i2 : (k : Int) < (l.length : Int) := by omega
      clear hc1 hc2 hx H1 H2
      go_wp2
      go_quiet (fail)
      go_wp2
      go_roundw
      case rel => exact ⟨k + 1, by omega, by go_num, below_drewN hbr _⟩
      case measure => simp [intOf]; omega
    · clear H1 H2
      go_wp2
      go_ret
      exact ⟨rfl, hbr⟩

set_option maxHeartbeats 1000000 in
theorem equalInt_any {v1 v2 : Value} {l m : List Int} {w : World} (h1 : Row .i64 w v1 l) (h2 : Row .i64 w v2 m) (hlm : l = m) :
    Calls Try.prog 22 #[v1, v2] w fun e w' => e = .returned (.bool true) ∧ Below w.heap.size w w' := by
  subst hlm
  obtain ⟨p, cap, rfl, g1, g2, g3, g4⟩ := h1
  obtain ⟨p', cap', rfl, f1, f2, f3, f4⟩ := h2
  have H1 : Hid (0 < l.length → ∃ b o, p = some ⟨b, o, none⟩ ∧ ∀ i, i < l.length → w.cell? ⟨b, o + i, none⟩ = some (.int .i64 (l.getD i 0))) := g4
  have H2 : Hid (0 < l.length → ∃ b o, p' = some ⟨b, o, none⟩ ∧ ∀ i, i < l.length → w.cell? ⟨b, o + i, none⟩ = some (.int .i64 (l.getD i 0))) := f4
  clear g3 g4 f3 f4
  have hne : (((l.length : Nat) : Int) != ((l.length : Nat) : Int)) = false := by simp
  go_enter Try.func22, Try.ntmps22
  go_wp2
  go_loopw [13] (fun i wr => ∃ k : Nat, k ≤ l.length ∧ i = .int .i64 (k : Int) ∧ Below w.heap.size w wr) (fun i _ => l.length - (intOf i).toNat)
  case atStart => exact ⟨0, Nat.zero_le _, rfl, Below.refl _ _⟩
  case round =>
    obtain ⟨k, hk, rfl, hbr⟩ := hrel
    by_cases hlt : k < l.length
    · obtain ⟨b1, o1, rfl, hc1⟩ := H1.out (by omega)
      obtain ⟨b2, o2, rfl, hc2⟩ := H2.out (by omega)
      obtain ⟨x, hx⟩ : ∃ x, x = l.getD k 0 := ⟨_, rfl⟩
      have d1 : wr.cell? ⟨b1, o1 + k, none⟩ = some (.int .i64 x) := by rw [hx]; exact cell_later hbr (hc1 k hlt)
      have d2 : wr.cell? ⟨b2, o2 + k, none⟩ = some (.int .i64 x) := by rw [hx]; exact cell_later hbr (hc2 k hlt)
      have i1 : (0 : Int) ≤ (k : Int) := by omega
      have i2 : (k : Int) < (l.length : Int) := by omega
      clear hc1 hc2 hx H1 H2
      go_wp2
      go_quiet (fail)
      go_wp2
      go_roundw
      case rel => exact ⟨k + 1, by omega, by go_num, below_drewN hbr _⟩
      case measure => simp [intOf]; omega
    · clear H1 H2
      go_wp2
      go_ret
      exact ⟨rfl, hbr⟩

theorem rfirst_at2 {v : Value} {l : List Int} {w : World} {n er : Int} {k : Nat} (hv : Row .u8 w v l) (hu : U8 l) (hf : first l = (n, k, er)) :
    Calls Try.prog 18 #[v] w fun e w' => e = .returned (.tuple #[.int .i64 n, .int .i64 (k : Int), .int .i64 er]) ∧ w' = w := by
  refine (rfirst_any hv hu).mono ?_
  rintro e w' ⟨rfl, rfl⟩
  rw [hf]
  exact ⟨rfl, rfl⟩

/-- Rows of unlike element types are not one row. -/
theorem rows_apart {w : World} {base base' n m : Nat} {e e' : TypeId} {v v' : Value} {xs ys : List Value} (h : w.ownsRow base e 1 v n xs) (h' : w.ownsRow base' e' 1 v' m ys) (hne : e ≠ e') : v.ownBlock = none ∨ v.ownBlock ≠ v'.ownBlock := by
  rcases h.2 with ⟨rfl, _⟩ | ⟨g, cap, cur, rfl, _, hg, _⟩
  · left; rfl
  · right
    rcases h'.2 with ⟨rfl, _⟩ | ⟨g', cap', cur', rfl, _, hg', _⟩
    · simp [Value.ownBlock]
    · simp only [Value.ownBlock, ne_eq, Option.some.injEq]
      rintro rfl
      rw [hg] at hg'
      simp at hg'
      exact hne hg'.2

set_option maxHeartbeats 4000000 in
theorem rnumbers_any {v : Value} {b : List Int} {w : World} (hv : Row .u8 w v b) (hu : U8 b) (hbig : b.length ≤ 1048576) :
    Calls Try.prog 20 #[v] w fun e w' => ∃ v1 v2, e = .returned (.tuple #[v1, v2]) ∧ w'.ownsRow w.heap.size 2 1 v1 (fsts (numbers b)).length ((fsts (numbers b)).map (Value.int .i64)) ∧
      w'.ownsRow w.heap.size 3 1 v2 (snds (numbers b)).length ((snds (numbers b)).map (Value.int .i64)) ∧ Below w.heap.size w w' := by
  obtain ⟨i1, hI1, hz0, hz1, hz2⟩ := info_parts Try.infoI64
  obtain ⟨i2, hI2, hy0, hy1, hy2⟩ := info_parts Try.infoInt
  have HV : Hid (Row .u8 w v b) := hv
  have HU : Hid (U8 b) := hu
  obtain ⟨p, cap, rfl, g1, g2, g3, g4⟩ := hv
  clear g3 g4 hu
  go_enter Try.func20, Try.ntmps20
  go_wp2
  go_loopw [4, 5, 6] (fun u1 u2 i wr => ∃ (k : Nat) (pre : List (Int × Nat)), k ≤ b.length ∧ i = .int .i64 (k : Int) ∧ pre.length ≤ k ∧ numbers b = pre ++ after b k ∧ wr.ownsRow w.heap.size 2 1 u1 (fsts pre).length ((fsts pre).map (Value.int .i64)) ∧
      wr.ownsRow w.heap.size 3 1 u2 (snds pre).length ((snds pre).map (Value.int .i64)) ∧ Below w.heap.size w wr) (fun _ _ i _ => b.length - (intOf i).toNat)
  case atStart => exact ⟨0, [], Nat.zero_le _, rfl, Nat.le_refl _, by rw [after_zero]; rfl, World.ownsRow_nil _ _ _ _, World.ownsRow_nil _ _ _ _, Below.refl _ _⟩
  case round =>
    obtain ⟨k, pre, hk, rfl, hpl, hpre, hown1, hown2, hbr⟩ := hrel
    have HP : Hid (numbers b = pre ++ after b k) := hpre
    have O1 : Hid (wr.ownsRow w.heap.size 2 1 u4 (fsts pre).length ((fsts pre).map (Value.int .i64))) := hown1
    have O2 : Hid (wr.ownsRow w.heap.size 3 1 u5 (snds pre).length ((snds pre).map (Value.int .i64))) := hown2
    clear hpre hown1 hown2
    obtain ⟨n, j, er, hf⟩ : ∃ n j er, first (b.drop k) = (n, j, er) := ⟨_, _, _, rfl⟩
    have HF : Hid (first (b.drop k) = (n, j, er)) := hf
    clear hf
    go_wp2_with fail
    · have hck : cap = k := by assumption
      refine (rfirst_at2 (((HV.out.below hbr).cutEnd hk hck)) (HU.out.drop k) HF.out).mono ?_
      rintro r w' ⟨rfl, hw'⟩
      obtain rfl : wr = w' := hw'.symm
      by_cases h0 : er = 0
      · subst h0
        obtain ⟨j0, j1, hstep⟩ := after_ok HU.out HF.out
        omega
      · have hn : (er != 0) = true := by simpa using h0
        have HE : Hid (numbers b = pre) := by show _ = _; rw [HP.out, after_err HF.out h0]; simp
        clear h0
        go_wp2
        go_ret2
        exact ⟨u4, u5, rfl, by rw [HE.out]; exact O1.out, by rw [HE.out]; exact O2.out, hbr⟩
    · refine (rfirst_at2 (((HV.out.below hbr).cut hk)) (HU.out.drop k) HF.out).mono ?_
      rintro r w' ⟨rfl, hw'⟩
      obtain rfl : wr = w' := hw'.symm
      by_cases h0 : er = 0
      · subst h0
        obtain ⟨j0, j1, hstep⟩ := after_ok HU.out HF.out
        have HST : Hid (after b k = (n, k + j) :: after b (k + j)) := hstep
        clear hstep
        go_wp2_with (at_builtin; refine append_row _ rfl (.tmp 25) (.tmp 27) 23 rfl w.heap.size 2 i1 .i64 8 Try.underlying23 hI1 hz0 hz1 hz2 _ _ _ rfl (O1.out.alloc _) _ [n] rfl (one_row .i64 _ _ _) (by rw [fsts_len]; simp; omega) (by rw [fsts_len]; simp; omega) (by have := hbr.size; simp; omega) ?_)
        intro v1 w1 hown1 hgrow1
        have OO1 : Hid (w1.ownsRow w.heap.size 2 1 v1 (fsts (pre ++ [(n, k + j)])).length ((fsts (pre ++ [(n, k + j)])).map (Value.int .i64))) := by
          show World.ownsRow _ _ _ _ _ _ _
          rw [fsts_snoc]
          simpa using hown1
        have Bw1 : Below w.heap.size w w1 := (hbr.alloc hbr.size _).grown hgrow1 (by have := hbr.size; simp; omega) (fun g hg => (O1.out.lt g hg).1)
        have OO2 : Hid (w1.ownsRow w.heap.size 3 1 u5 (snds pre).length ((snds pre).map (Value.int .i64))) := (O2.out.alloc _).kept hgrow1 (rows_apart O2.out O1.out (by decide))
        clear hown1 hgrow1 O1 O2
        go_wp2_with (at_builtin; refine append_row _ rfl (.tmp 29) (.tmp 31) 35 rfl w.heap.size 3 i2 .i64 8 Try.underlying35 hI2 hy0 hy1 hy2 _ _ _ rfl (OO2.out.alloc _) _ [(k : Int) + (j : Int)] rfl (one_row .i64 _ _ _) (by rw [snds_len]; simp; omega) (by rw [snds_len]; simp; omega) (by have := Bw1.size; simp; omega) ?_)
        intro v2 w2 hown2 hgrow2
        have PP2 : Hid (w2.ownsRow w.heap.size 3 1 v2 (snds (pre ++ [(n, k + j)])).length ((snds (pre ++ [(n, k + j)])).map (Value.int .i64))) := by
          show World.ownsRow _ _ _ _ _ _ _
          rw [snds_snoc]
          simpa using hown2
        have PP1 : Hid (w2.ownsRow w.heap.size 2 1 v1 (fsts (pre ++ [(n, k + j)])).length ((fsts (pre ++ [(n, k + j)])).map (Value.int .i64))) := (OO1.out.alloc _).kept hgrow2 (rows_apart OO1.out OO2.out (by decide))
        have Bw2 : Below w.heap.size w w2 := (Bw1.alloc Bw1.size _).grown hgrow2 (by have := Bw1.size; simp; omega) (fun g hg => (OO2.out.lt g hg).1)
        have HP' : Hid (numbers b = (pre ++ [(n, k + j)]) ++ after b (k + j)) := by show _ = _; rw [HP.out, HST.out]; simp
        clear hown2 hgrow2 OO1 OO2 HP HST
        go_wp2
        go_roundw
        case rel => exact ⟨k + j, pre ++ [(n, k + j)], j1, by go_num, by simp; omega, HP'.out, PP1.out, PP2.out, Bw2⟩
        case measure => simp [intOf]; omega
      · have hn : (er != 0) = true := by simpa using h0
        have HE : Hid (numbers b = pre) := by show _ = _; rw [HP.out, after_err HF.out h0]; simp
        clear h0
        go_wp2
        go_ret2
        exact ⟨u4, u5, rfl, by rw [HE.out]; exact O1.out, by rw [HE.out]; exact O2.out, hbr⟩

end Go.Proofs.Ytpnoijmdhlkjlaa
