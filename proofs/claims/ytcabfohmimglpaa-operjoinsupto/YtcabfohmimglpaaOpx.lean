/-
  next of the program. The conditions: that numbers are of their types.
-/
import Derived.Test.YtcabfohmimglpaaOpn
namespace Go.Proofs.Ytcabfohmimglpaa
open Go.RowKit

def countC (cnt : Int) : Int := if cnt < 9007199254740992 then cnt + 1 else 9007199254740992
def staysC (kd ar cnt : Int) : Bool := kd == 5 || decide (countC cnt < ar)

theorem ks_facts {w : World} {b : Nat} {c0 c1 c2 : Value} (h : w.heap[b]? = some (.cells #[c0, c1, c2] 43 (0, 0))) (d0 d1 : Value) :
    w.cell? ⟨b, 0, none⟩ = some c0 ∧ w.frozen? ⟨b, 0, none⟩ = false ∧ (w.setCell ⟨b, 0, none⟩ d0).cell? ⟨b, 1, none⟩ = some c1 ∧ (w.setCell ⟨b, 0, none⟩ d0).frozen? ⟨b, 1, none⟩ = false ∧ ((w.setCell ⟨b, 0, none⟩ d0).setCell ⟨b, 1, none⟩ d1).cell? ⟨b, 2, none⟩ = some c2 ∧ ((w.setCell ⟨b, 0, none⟩ d0).setCell ⟨b, 1, none⟩ d1).frozen? ⟨b, 2, none⟩ = false := by
  have h1 := heap_setCell_same w b 0 _ _ d0 h
  have h2 := heap_setCell_same _ b 1 _ _ d1 h1
  refine ⟨by simp [World.cell?, h], by simp [World.frozen?, h], ?_, ?_, ?_, ?_⟩
  · simp only [World.cell?]; rw [h1]; rfl
  · simp only [World.frozen?]; rw [h1]; rfl
  · simp only [World.cell?]; rw [h2]; rfl
  · simp only [World.frozen?]; rw [h2]; rfl
theorem set3 {w : World} {b : Nat} {c0 c1 c2 : Value} (h : w.heap[b]? = some (.cells #[c0, c1, c2] 43 (0, 0))) (d0 d1 d2 : Value) :
    (((w.setCell ⟨b, 0, none⟩ d0).setCell ⟨b, 1, none⟩ d1).setCell ⟨b, 2, none⟩ d2).heap[b]? = some (.cells #[d0, d1, d2] 43 (0, 0)) :=
  heap_setCell_same _ b 2 _ _ d2 (heap_setCell_same _ b 1 _ _ d1 (heap_setCell_same _ b 0 _ _ d0 h))
theorem only_set3 (w : World) (b : Nat) (d0 d1 d2 : Value) : Only (· = b) w (((w.setCell ⟨b, 0, none⟩ d0).setCell ⟨b, 1, none⟩ d1).setCell ⟨b, 2, none⟩ d2) :=
  ((Only.set (F := (· = b)) w b 0 d0 rfl).trans (Only.set (F := (· = b)) _ b 1 d1 rfl)).trans (Only.set (F := (· = b)) _ b 2 d2 rfl)
theorem results_cell_bool {P : Program} {fn : Func} {p u : Tmp} {ty : TypeId} (h : fn.results = #[.cell p ty, .tmp u]) (tmps : Array Value) (w : World) (g : Nat) (t : TypeId) (cs : Array Value) (fr : Nat × Nat) (d : TypeDesc)
    (hp : tmps.getD p undef = .pointer (some ⟨g, 0, none⟩)) (hg : w.heap[g]? = some (.cells cs t fr))
    (hu : P.underlying ty = some d) (hd : (match d with | .struct _ | .array _ _ => true | _ => false) = true) (hi : (P.info? ty).map (·.size) = some cs.size) :
    (results fn tmps).run P w = .ok (.tuple #[.agg cs, tmps.getD u undef]) w := by
  rw [results_cell_tmp h, hp]
  simp [asAddr, run_loadVar_row w g t ty cs fr d hg hu hd hi]

set_option maxRecDepth 100000 in
set_option maxHeartbeats 8000000 in
theorem next_any {W : World} {kd pt fn ar key cnt acc v : Int} {ip : Option Addr} {n ic : Nat} (hc : I6 cnt) {ac : Int} (hac : accC fn cnt acc v = ac) {cn : Int} (hcn : countC cnt = cn) {sb : Bool} (hsb : staysC kd ar cnt = sb) :
    Calls Try.prog 13 #[.agg #[.int .i64 kd, .int .i64 pt, .int .i64 fn, .int .i64 ar, .slice ip n ic], .agg #[.int .i64 key, .int .i64 cnt, .int .i64 acc], .int .i64 v] W fun e w' => e = .returned (.tuple #[.agg #[.int .i64 key, .int .i64 cn, .int .i64 ac], .bool sb]) ∧ Below W.heap.size W w' := by
  obtain ⟨V, hV⟩ : ∃ V, V = ((W.alloc (.cells #[.int .i64 kd, .int .i64 pt, .int .i64 fn, .int .i64 ar, .slice ip n ic] 24 (0, 0))).alloc (.cells #[.int .i64 key, .int .i64 cnt, .int .i64 acc] 43 (0, 0))).alloc (.cells #[.int .i64 0, .int .i64 0, .int .i64 0] 43 (0, 0)) := ⟨_, rfl⟩
  have ab1 := alloc_below W (.cells #[.int .i64 kd, .int .i64 pt, .int .i64 fn, .int .i64 ar, .slice ip n ic] 24 (0, 0))
  have ab2 := alloc_below (W.alloc (.cells #[.int .i64 kd, .int .i64 pt, .int .i64 fn, .int .i64 ar, .slice ip n ic] 24 (0, 0))) (.cells #[.int .i64 key, .int .i64 cnt, .int .i64 acc] 43 (0, 0))
  have ab3 := alloc_below ((W.alloc (.cells #[.int .i64 kd, .int .i64 pt, .int .i64 fn, .int .i64 ar, .slice ip n ic] 24 (0, 0))).alloc (.cells #[.int .i64 key, .int .i64 cnt, .int .i64 acc] 43 (0, 0))) (.cells #[.int .i64 0, .int .i64 0, .int .i64 0] 43 (0, 0))
  have hbV : Below W.heap.size W V := by rw [hV]; exact (ab1.trans (ab2.mono ab1.size)).trans (ab3.mono (Nat.le_trans ab1.size ab2.size))
  have u0 : V.heap[W.heap.size]? = some (.cells #[.int .i64 kd, .int .i64 pt, .int .i64 fn, .int .i64 ar, .slice ip n ic] 24 (0, 0)) := by rw [hV]; exact below_box ab3 (below_box ab2 (heap_alloc_new W _))
  have u1 : V.heap[W.heap.size + 1]? = some (.cells #[.int .i64 key, .int .i64 cnt, .int .i64 acc] 43 (0, 0)) := by
    have e : W.heap.size + 1 = (W.alloc (.cells #[.int .i64 kd, .int .i64 pt, .int .i64 fn, .int .i64 ar, .slice ip n ic] 24 (0, 0))).heap.size := by simp
    rw [hV, e]
    exact below_box ab3 (heap_alloc_new _ _)
  have u2 : V.heap[W.heap.size + 1 + 1]? = some (.cells #[.int .i64 0, .int .i64 0, .int .i64 0] 43 (0, 0)) := by
    have e : W.heap.size + 1 + 1 = ((W.alloc (.cells #[.int .i64 kd, .int .i64 pt, .int .i64 fn, .int .i64 ar, .slice ip n ic] 24 (0, 0))).alloc (.cells #[.int .i64 key, .int .i64 cnt, .int .i64 acc] 43 (0, 0))).heap.size := by simp
    rw [hV, e]
    exact heap_alloc_new _ _
  have HVB := hide hbV
  obtain ⟨sB, hsB⟩ : ∃ sB, W.heap.size = sB := ⟨_, rfl⟩
  rw [hsB] at u0 u1 u2
  have HSB := hide hsB
  have z0 : V.cell? ⟨sB, 2, none⟩ = some (.int .i64 fn) := by simp [World.cell?, u0]
  have z1 : V.cell? ⟨sB + 1, 0, none⟩ = some (.int .i64 key) := by simp [World.cell?, u1]
  have z2 : V.cell? ⟨sB + 1, 1, none⟩ = some (.int .i64 cnt) := by simp [World.cell?, u1]
  have z3 : V.cell? ⟨sB + 1, 2, none⟩ = some (.int .i64 acc) := by simp [World.cell?, u1]
  have HSS : Hid (∀ w', Below V.heap.size V w' → w'.cell? ⟨sB, 2, none⟩ = some (.int .i64 fn) ∧ w'.cell? ⟨sB + 1, 0, none⟩ = some (.int .i64 key) ∧ w'.cell? ⟨sB + 1, 1, none⟩ = some (.int .i64 cnt) ∧ w'.cell? ⟨sB + 1, 2, none⟩ = some (.int .i64 acc)) := hide (fun w' h => ⟨cell_later h z0, cell_later h z1, cell_later h z2, cell_later h z3⟩)
  have B0 : Below V.heap.size V V.drew := (Below.refl _ V).drew
  have hvl : Below V.heap.size V (V.alloc (.cells #[.int .i64 0, .int .i64 0, .int .i64 0] 43 (0, 0))) := alloc_below V _
  have B1 : Below V.heap.size V (V.alloc (.cells #[.int .i64 0, .int .i64 0, .int .i64 0] 43 (0, 0))).drew := hvl.drew
  have HA1 := hide (acc_any (W := V.drew) (fn := fn) (key := key) (cnt := cnt) (acc := acc) (v := v))
  have HA2 := hide (acc_any (W := (V.alloc (.cells #[.int .i64 0, .int .i64 0, .int .i64 0] 43 (0, 0))).drew) (fn := fn) (key := key) (cnt := cnt) (acc := acc) (v := v))
  rw [hac] at HA1 HA2
  have hnz : (V.alloc (.cells #[.int .i64 0, .int .i64 0, .int .i64 0] 43 (0, 0))).drew.heap[V.heap.size]? = some (.cells #[.int .i64 0, .int .i64 0, .int .i64 0] 43 (0, 0)) := heap_alloc_new V _
  have HNZ := hide hnz
  have n0 := World.new_ne V _ z0
  have n1 := World.new_ne V _ z1
  have n2 := World.new_ne V _ z2
  have n3 := World.new_ne V _ z3
  clear ab1 ab2 ab3 hbV hnz hvl
  go_enter Try.func13, Try.ntmps13
  go_upto_region 1 with fail
  rw [← hV]
  try rw [hsB]
  clear hV hsB
  go_region_held3 (fun w' => w'.cell? ⟨sB, 2, none⟩ = some (.int .i64 fn) ∧ w'.cell? ⟨sB + 1, 0, none⟩ = some (.int .i64 key) ∧ w'.cell? ⟨sB + 1, 1, none⟩ = some (.int .i64 cnt) ∧ w'.cell? ⟨sB + 1, 2, none⟩ = some (.int .i64 acc)) (go_keep)
    (first
      | (go_at_call 27; refine HA1.out.mono ?_; rintro _ x1 ⟨rfl, d1⟩; have D1 := B0.trans (d1.mono B0.size); obtain ⟨i0, i1, i2, i3⟩ := HSS.out _ D1)
      | (go_at_call 27; refine HA2.out.mono ?_; rintro _ x1 ⟨rfl, d1⟩; have D1 := B1.trans (d1.mono B1.size); obtain ⟨i0, i1, i2, i3⟩ := HSS.out _ D1; have hnz1 := below_box d1 HNZ.out; have t0 : x1.cell? ⟨V.heap.size, 0, none⟩ = some (.int .i64 0) := (by simp [World.cell?, hnz1]); have t1 : x1.cell? ⟨V.heap.size, 1, none⟩ = some (.int .i64 0) := (by simp [World.cell?, hnz1]); have t2 : x1.cell? ⟨V.heap.size, 2, none⟩ = some (.int .i64 0) := (by simp [World.cell?, hnz1]); have t3 : ∀ j, x1.frozen? ⟨V.heap.size, j, none⟩ = false := (by intro j; simp [World.frozen?, hnz1])))
  · obtain ⟨X, hX⟩ : ∃ X, X = x1.alloc (.cells #[.int .i64 key, .int .i64 9007199254740992, .int .i64 ac] 43 (0, 0)) := ⟨_, rfl⟩
    have hbx : X.heap[x1.heap.size]? = some (.cells #[.int .i64 key, .int .i64 9007199254740992, .int .i64 ac] 43 (0, 0)) := by rw [hX]; exact heap_alloc_new x1 _
    have hXB : Below V.heap.size V X := by rw [hX]; exact D1.trans ((alloc_below x1 _).mono D1.size)
    rw [← hX]
    obtain ⟨nb, hnb⟩ : ∃ nb, x1.heap.size = nb := ⟨_, rfl⟩
    have HGE : Hid (V.heap.size ≤ nb) := hide (by rw [← hnb]; exact D1.size)
    rw [hnb] at hbx
    try rw [hnb]
    have x0 := below_box hXB u0
    have x1' := below_box hXB u1
    have x2 := below_box hXB u2
    have hs2 : sB + 1 + 1 < V.heap.size := (Array.getElem?_eq_some_iff.1 u2).1
    have hgt : sB + 1 + 1 < nb := Nat.lt_of_lt_of_le hs2 HGE.out
    clear hX hnb D1 d1 HA1 HA2 HNZ B0 B1 n0 n1 n2 n3 i0 i1 i2 i3 z0 z1 z2 z3 HSS
    by_cases hct : cnt < 9007199254740992
    · have dc : decide (cnt < 9007199254740992) = true := decide_eq_true hct
      obtain rfl : cnt + 1 = cn := by rw [← hcn]; unfold countC; rw [if_pos hct]
      have g0 : X.cell? ⟨sB + 1, 1, none⟩ = some (.int .i64 cnt) := by simp [World.cell?, x1']
      have g1 : X.cell? ⟨nb, 1, none⟩ = some (.int .i64 9007199254740992) := by simp [World.cell?, hbx]
      have g2 : X.frozen? ⟨nb, 1, none⟩ = false := by simp [World.frozen?, hbx]
      have p0 := heap_setCell_same X nb 1 _ _ (.int .i64 (cnt + 1)) hbx
      have p1 := heap_set_other (o := 1) (v := .int .i64 (cnt + 1)) x0 (show nb ≠ sB by omega)
      have p2 := heap_set_other (o := 1) (v := .int .i64 (cnt + 1)) x2 (show nb ≠ sB + 1 + 1 by omega)
      have hYB : Below V.heap.size V (X.setCell ⟨nb, 1, none⟩ (.int .i64 (cnt + 1))) := hXB.trans ((Only.set (F := (· = nb)) X nb 1 _ rfl).below hXB.size (fun i e => by have e' : i = nb := e; have := HGE.out; omega))
      obtain ⟨Y, hY⟩ : ∃ Y, Y = X.setCell ⟨nb, 1, none⟩ (.int .i64 (cnt + 1)) := ⟨_, rfl⟩
      rw [← hY] at p0 p1 p2 hYB
      unfold I6 at hc
      go_upto_region 4 with fail
      rw [← hY]
      clear hY g0 g1 g2 hbx x0 x1' x2 hXB dc u0 u1 u2
      have q0 : Y.cell? ⟨nb, 0, none⟩ = some (.int .i64 key) := by simp [World.cell?, p0]
      have q1 : Y.cell? ⟨nb, 1, none⟩ = some (.int .i64 (cnt + 1)) := by simp [World.cell?, p0]
      have q2 : Y.cell? ⟨nb, 2, none⟩ = some (.int .i64 ac) := by simp [World.cell?, p0]
      have q3 : Y.cell? ⟨sB, 0, none⟩ = some (.int .i64 kd) := by simp [World.cell?, p1]
      have q4 : Y.cell? ⟨sB, 3, none⟩ = some (.int .i64 ar) := by simp [World.cell?, p1]
      obtain ⟨f0, f1, f2, f3, f4, f5⟩ := ks_facts p2 (.int .i64 key) (.int .i64 (cnt + 1))
      have HE := hide (set3 p2 (.int .i64 key) (.int .i64 (cnt + 1)) (.int .i64 ac))
      have HBF : Hid (Below W.heap.size W (((Y.setCell ⟨sB + 1 + 1, 0, none⟩ (.int .i64 key)).setCell ⟨sB + 1 + 1, 1, none⟩ (.int .i64 (cnt + 1))).setCell ⟨sB + 1 + 1, 2, none⟩ (.int .i64 ac))) := hide ((HVB.out.trans (hYB.mono HVB.out.size)).trans ((only_set3 Y (sB + 1 + 1) _ _ _).below (Nat.le_trans HVB.out.size hYB.size) (fun i e => by have e' : i = sB + 1 + 1 := e; have := HSB.out; omega)))
      clear p0 p1 p2 hYB
      by_cases h5 : kd = 5
      · subst h5
        obtain rfl : true = sb := by rw [← hsb]; rfl
        go_region
        all_goals
          go_wp2
          refine bodyPost_ret (results_cell_bool rfl _ _ (sB + 1 + 1) 43 _ _ _ rfl HE.out Try.underlying43 rfl (by kernel_rfl)) rfl ?_
          first | exact ⟨rfl, HBF.out⟩ | exact ⟨rfl, HBF.out.drew⟩
      · have e5 := ne_eq h5
        obtain rfl : decide ((cnt + 1) < ar) = sb := by rw [← hsb]; unfold staysC countC; rw [e5, if_pos hct]; rfl
        go_region
        all_goals
          go_wp2
          refine bodyPost_ret (results_cell_bool rfl _ _ (sB + 1 + 1) 43 _ _ _ rfl HE.out Try.underlying43 rfl (by kernel_rfl)) rfl ?_
          first | exact ⟨rfl, HBF.out⟩ | exact ⟨rfl, HBF.out.drew⟩
    · have dc : decide (cnt < 9007199254740992) = false := decide_eq_false hct
      obtain rfl : 9007199254740992 = cn := by rw [← hcn]; unfold countC; rw [if_neg hct]
      have g0 : X.cell? ⟨sB + 1, 1, none⟩ = some (.int .i64 cnt) := by simp [World.cell?, x1']
      have p0 := hbx
      have p1 := x0
      have p2 := x2
      have hYB := hXB
      go_upto_region 4 with fail
      clear g0 hbx x0 x1' x2 hXB dc u0 u1 u2
      have q0 : X.cell? ⟨nb, 0, none⟩ = some (.int .i64 key) := by simp [World.cell?, p0]
      have q1 : X.cell? ⟨nb, 1, none⟩ = some (.int .i64 9007199254740992) := by simp [World.cell?, p0]
      have q2 : X.cell? ⟨nb, 2, none⟩ = some (.int .i64 ac) := by simp [World.cell?, p0]
      have q3 : X.cell? ⟨sB, 0, none⟩ = some (.int .i64 kd) := by simp [World.cell?, p1]
      have q4 : X.cell? ⟨sB, 3, none⟩ = some (.int .i64 ar) := by simp [World.cell?, p1]
      obtain ⟨f0, f1, f2, f3, f4, f5⟩ := ks_facts p2 (.int .i64 key) (.int .i64 9007199254740992)
      have HE := hide (set3 p2 (.int .i64 key) (.int .i64 9007199254740992) (.int .i64 ac))
      have HBF : Hid (Below W.heap.size W (((X.setCell ⟨sB + 1 + 1, 0, none⟩ (.int .i64 key)).setCell ⟨sB + 1 + 1, 1, none⟩ (.int .i64 9007199254740992)).setCell ⟨sB + 1 + 1, 2, none⟩ (.int .i64 ac))) := hide ((HVB.out.trans (hYB.mono HVB.out.size)).trans ((only_set3 X (sB + 1 + 1) _ _ _).below (Nat.le_trans HVB.out.size hYB.size) (fun i e => by have e' : i = sB + 1 + 1 := e; have := HSB.out; omega)))
      clear p0 p1 p2 hYB
      by_cases h5 : kd = 5
      · subst h5
        obtain rfl : true = sb := by rw [← hsb]; rfl
        go_region
        all_goals
          go_wp2
          refine bodyPost_ret (results_cell_bool rfl _ _ (sB + 1 + 1) 43 _ _ _ rfl HE.out Try.underlying43 rfl (by kernel_rfl)) rfl ?_
          first | exact ⟨rfl, HBF.out⟩ | exact ⟨rfl, HBF.out.drew⟩
      · have e5 := ne_eq h5
        obtain rfl : decide (9007199254740992 < ar) = sb := by rw [← hsb]; unfold staysC countC; rw [e5, if_neg hct]; rfl
        go_region
        all_goals
          go_wp2
          refine bodyPost_ret (results_cell_bool rfl _ _ (sB + 1 + 1) 43 _ _ _ rfl HE.out Try.underlying43 rfl (by kernel_rfl)) rfl ?_
          first | exact ⟨rfl, HBF.out⟩ | exact ⟨rfl, HBF.out.drew⟩
  · obtain ⟨X, hX⟩ : ∃ X, X = ((x1.setCell ⟨V.heap.size, 0, none⟩ (.int .i64 key)).setCell ⟨V.heap.size, 1, none⟩ (.int .i64 9007199254740992)).setCell ⟨V.heap.size, 2, none⟩ (.int .i64 ac) := ⟨_, rfl⟩
    have hbx : X.heap[V.heap.size]? = some (.cells #[.int .i64 key, .int .i64 9007199254740992, .int .i64 ac] 43 (0, 0)) := by rw [hX]; exact set3 hnz1 _ _ _
    have hXB : Below V.heap.size V X := by rw [hX]; exact D1.trans ((only_set3 x1 V.heap.size _ _ _).below D1.size (fun i e => by have e' : i = V.heap.size := e; omega))
    rw [← hX]
    obtain ⟨nb, hnb⟩ : ∃ nb, V.heap.size = nb := ⟨_, rfl⟩
    have HGE : Hid (V.heap.size ≤ nb) := hide (by rw [← hnb]; exact Nat.le_refl _)
    rw [hnb] at hbx
    try rw [hnb]
    have x0 := below_box hXB u0
    have x1' := below_box hXB u1
    have x2 := below_box hXB u2
    have hs2 : sB + 1 + 1 < V.heap.size := (Array.getElem?_eq_some_iff.1 u2).1
    have hgt : sB + 1 + 1 < nb := Nat.lt_of_lt_of_le hs2 HGE.out
    clear hX hnb D1 d1 HA1 HA2 HNZ B0 B1 n0 n1 n2 n3 i0 i1 i2 i3 z0 z1 z2 z3 HSS
    by_cases hct : cnt < 9007199254740992
    · have dc : decide (cnt < 9007199254740992) = true := decide_eq_true hct
      obtain rfl : cnt + 1 = cn := by rw [← hcn]; unfold countC; rw [if_pos hct]
      have g0 : X.cell? ⟨sB + 1, 1, none⟩ = some (.int .i64 cnt) := by simp [World.cell?, x1']
      have g1 : X.cell? ⟨nb, 1, none⟩ = some (.int .i64 9007199254740992) := by simp [World.cell?, hbx]
      have g2 : X.frozen? ⟨nb, 1, none⟩ = false := by simp [World.frozen?, hbx]
      have p0 := heap_setCell_same X nb 1 _ _ (.int .i64 (cnt + 1)) hbx
      have p1 := heap_set_other (o := 1) (v := .int .i64 (cnt + 1)) x0 (show nb ≠ sB by omega)
      have p2 := heap_set_other (o := 1) (v := .int .i64 (cnt + 1)) x2 (show nb ≠ sB + 1 + 1 by omega)
      have hYB : Below V.heap.size V (X.setCell ⟨nb, 1, none⟩ (.int .i64 (cnt + 1))) := hXB.trans ((Only.set (F := (· = nb)) X nb 1 _ rfl).below hXB.size (fun i e => by have e' : i = nb := e; have := HGE.out; omega))
      obtain ⟨Y, hY⟩ : ∃ Y, Y = X.setCell ⟨nb, 1, none⟩ (.int .i64 (cnt + 1)) := ⟨_, rfl⟩
      rw [← hY] at p0 p1 p2 hYB
      unfold I6 at hc
      go_upto_region 4 with fail
      rw [← hY]
      clear hY g0 g1 g2 hbx x0 x1' x2 hXB dc u0 u1 u2
      have q0 : Y.cell? ⟨nb, 0, none⟩ = some (.int .i64 key) := by simp [World.cell?, p0]
      have q1 : Y.cell? ⟨nb, 1, none⟩ = some (.int .i64 (cnt + 1)) := by simp [World.cell?, p0]
      have q2 : Y.cell? ⟨nb, 2, none⟩ = some (.int .i64 ac) := by simp [World.cell?, p0]
      have q3 : Y.cell? ⟨sB, 0, none⟩ = some (.int .i64 kd) := by simp [World.cell?, p1]
      have q4 : Y.cell? ⟨sB, 3, none⟩ = some (.int .i64 ar) := by simp [World.cell?, p1]
      obtain ⟨f0, f1, f2, f3, f4, f5⟩ := ks_facts p2 (.int .i64 key) (.int .i64 (cnt + 1))
      have HE := hide (set3 p2 (.int .i64 key) (.int .i64 (cnt + 1)) (.int .i64 ac))
      have HBF : Hid (Below W.heap.size W (((Y.setCell ⟨sB + 1 + 1, 0, none⟩ (.int .i64 key)).setCell ⟨sB + 1 + 1, 1, none⟩ (.int .i64 (cnt + 1))).setCell ⟨sB + 1 + 1, 2, none⟩ (.int .i64 ac))) := hide ((HVB.out.trans (hYB.mono HVB.out.size)).trans ((only_set3 Y (sB + 1 + 1) _ _ _).below (Nat.le_trans HVB.out.size hYB.size) (fun i e => by have e' : i = sB + 1 + 1 := e; have := HSB.out; omega)))
      clear p0 p1 p2 hYB
      by_cases h5 : kd = 5
      · subst h5
        obtain rfl : true = sb := by rw [← hsb]; rfl
        go_region
        all_goals
          go_wp2
          refine bodyPost_ret (results_cell_bool rfl _ _ (sB + 1 + 1) 43 _ _ _ rfl HE.out Try.underlying43 rfl (by kernel_rfl)) rfl ?_
          first | exact ⟨rfl, HBF.out⟩ | exact ⟨rfl, HBF.out.drew⟩
      · have e5 := ne_eq h5
        obtain rfl : decide ((cnt + 1) < ar) = sb := by rw [← hsb]; unfold staysC countC; rw [e5, if_pos hct]; rfl
        go_region
        all_goals
          go_wp2
          refine bodyPost_ret (results_cell_bool rfl _ _ (sB + 1 + 1) 43 _ _ _ rfl HE.out Try.underlying43 rfl (by kernel_rfl)) rfl ?_
          first | exact ⟨rfl, HBF.out⟩ | exact ⟨rfl, HBF.out.drew⟩
    · have dc : decide (cnt < 9007199254740992) = false := decide_eq_false hct
      obtain rfl : 9007199254740992 = cn := by rw [← hcn]; unfold countC; rw [if_neg hct]
      have g0 : X.cell? ⟨sB + 1, 1, none⟩ = some (.int .i64 cnt) := by simp [World.cell?, x1']
      have p0 := hbx
      have p1 := x0
      have p2 := x2
      have hYB := hXB
      go_upto_region 4 with fail
      clear g0 hbx x0 x1' x2 hXB dc u0 u1 u2
      have q0 : X.cell? ⟨nb, 0, none⟩ = some (.int .i64 key) := by simp [World.cell?, p0]
      have q1 : X.cell? ⟨nb, 1, none⟩ = some (.int .i64 9007199254740992) := by simp [World.cell?, p0]
      have q2 : X.cell? ⟨nb, 2, none⟩ = some (.int .i64 ac) := by simp [World.cell?, p0]
      have q3 : X.cell? ⟨sB, 0, none⟩ = some (.int .i64 kd) := by simp [World.cell?, p1]
      have q4 : X.cell? ⟨sB, 3, none⟩ = some (.int .i64 ar) := by simp [World.cell?, p1]
      obtain ⟨f0, f1, f2, f3, f4, f5⟩ := ks_facts p2 (.int .i64 key) (.int .i64 9007199254740992)
      have HE := hide (set3 p2 (.int .i64 key) (.int .i64 9007199254740992) (.int .i64 ac))
      have HBF : Hid (Below W.heap.size W (((X.setCell ⟨sB + 1 + 1, 0, none⟩ (.int .i64 key)).setCell ⟨sB + 1 + 1, 1, none⟩ (.int .i64 9007199254740992)).setCell ⟨sB + 1 + 1, 2, none⟩ (.int .i64 ac))) := hide ((HVB.out.trans (hYB.mono HVB.out.size)).trans ((only_set3 X (sB + 1 + 1) _ _ _).below (Nat.le_trans HVB.out.size hYB.size) (fun i e => by have e' : i = sB + 1 + 1 := e; have := HSB.out; omega)))
      clear p0 p1 p2 hYB
      by_cases h5 : kd = 5
      · subst h5
        obtain rfl : true = sb := by rw [← hsb]; rfl
        go_region
        all_goals
          go_wp2
          refine bodyPost_ret (results_cell_bool rfl _ _ (sB + 1 + 1) 43 _ _ _ rfl HE.out Try.underlying43 rfl (by kernel_rfl)) rfl ?_
          first | exact ⟨rfl, HBF.out⟩ | exact ⟨rfl, HBF.out.drew⟩
      · have e5 := ne_eq h5
        obtain rfl : decide (9007199254740992 < ar) = sb := by rw [← hsb]; unfold staysC countC; rw [e5, if_neg hct]; rfl
        go_region
        all_goals
          go_wp2
          refine bodyPost_ret (results_cell_bool rfl _ _ (sB + 1 + 1) 43 _ _ _ rfl HE.out Try.underlying43 rfl (by kernel_rfl)) rfl ?_
          first | exact ⟨rfl, HBF.out⟩ | exact ⟨rfl, HBF.out.drew⟩
end Go.Proofs.Ytcabfohmimglpaa
