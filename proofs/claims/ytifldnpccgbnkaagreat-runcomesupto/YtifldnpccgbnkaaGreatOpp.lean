/-
  next of the program. The conditions: that numbers are of their types.
-/
import Derived.Test.YtifldnpccgbnkaaGreatOpn
namespace Go.Proofs.YtifldnpccgbnkaaGreat.Op
open Go.RowKit

def countC (cnt : Int) : Int := if cnt < 9007199254740992 then cnt + 1 else 9007199254740992
def staysC (kd ar cnt : Int) : Bool := kd == 5 || decide (countC cnt < ar)

theorem ks_facts {w : World} {b : Nat} {c0 c1 c2 : Value} (h : w.heap[b]? = some (.cells #[c0, c1, c2] 105 (0, 0))) (d0 d1 : Value) :
    w.cell? ⟨b, 0, none⟩ = some c0 ∧ w.frozen? ⟨b, 0, none⟩ = false ∧ (w.setCell ⟨b, 0, none⟩ d0).cell? ⟨b, 1, none⟩ = some c1 ∧ (w.setCell ⟨b, 0, none⟩ d0).frozen? ⟨b, 1, none⟩ = false ∧ ((w.setCell ⟨b, 0, none⟩ d0).setCell ⟨b, 1, none⟩ d1).cell? ⟨b, 2, none⟩ = some c2 ∧ ((w.setCell ⟨b, 0, none⟩ d0).setCell ⟨b, 1, none⟩ d1).frozen? ⟨b, 2, none⟩ = false := by
  have h1 := heap_setCell_same w b 0 _ _ d0 h
  have h2 := heap_setCell_same _ b 1 _ _ d1 h1
  refine ⟨by simp [World.cell?, h], by simp [World.frozen?, h], ?_, ?_, ?_, ?_⟩
  · simp only [World.cell?]; rw [h1]; rfl
  · simp only [World.frozen?]; rw [h1]; rfl
  · simp only [World.cell?]; rw [h2]; rfl
  · simp only [World.frozen?]; rw [h2]; rfl
theorem set3 {w : World} {b : Nat} {c0 c1 c2 : Value} (h : w.heap[b]? = some (.cells #[c0, c1, c2] 105 (0, 0))) (d0 d1 d2 : Value) :
    (((w.setCell ⟨b, 0, none⟩ d0).setCell ⟨b, 1, none⟩ d1).setCell ⟨b, 2, none⟩ d2).heap[b]? = some (.cells #[d0, d1, d2] 105 (0, 0)) :=
  heap_setCell_same _ b 2 _ _ d2 (heap_setCell_same _ b 1 _ _ d1 (heap_setCell_same _ b 0 _ _ d0 h))
theorem only_set3 (w : World) (b : Nat) (d0 d1 d2 : Value) : Only (· = b) w (((w.setCell ⟨b, 0, none⟩ d0).setCell ⟨b, 1, none⟩ d1).setCell ⟨b, 2, none⟩ d2) :=
  ((Only.set (F := (· = b)) w b 0 d0 rfl).trans (Only.set (F := (· = b)) _ b 1 d1 rfl)).trans (Only.set (F := (· = b)) _ b 2 d2 rfl)
theorem results_cell_bool {P : Program} {fn : Func} {p u : Tmp} {ty : TypeId} (h : fn.results = #[.cell p ty, .tmp u]) (tmps : Array Value) (w : World) (g : Nat) (t : TypeId) (cs : Array Value) (fr : Nat × Nat) (d : TypeDesc)
    (hp : tmps.getD p undef = .pointer (some ⟨g, 0, none⟩)) (hg : w.heap[g]? = some (.cells cs t fr))
    (hu : P.underlying ty = some d) (hd : (match d with | .struct _ | .array _ _ => true | _ => false) = true) (hi : (P.info? ty).map (·.size) = some cs.size) :
    (results fn tmps).run P w = .ok (.tuple #[.agg cs, tmps.getD u undef]) w := by
  rw [results_cell_tmp h, hp]
  simp [asAddr, run_loadVar_row w g t ty cs fr d hg hu hd hi]

set_option maxRecDepth 100000 in
set_option maxHeartbeats 8000000 in
theorem next_any {W : World} {kd pt fn ar key cnt acc v : Int} {ip : Option Addr} {n ic : Nat} (hc : I6 cnt) {ac : Int} (hac : accC fn cnt acc v = ac) {cn : Int} (hcn : countC cnt = cn) {sb : Bool} (hsb : staysC kd ar cnt = sb) :
    Calls Tryz.prog 63 #[.agg #[.int .i64 kd, .int .i64 pt, .int .i64 fn, .int .i64 ar, .slice ip n ic], .agg #[.int .i64 key, .int .i64 cnt, .int .i64 acc], .int .i64 v] W fun e w' => e = .returned (.tuple #[.agg #[.int .i64 key, .int .i64 cn, .int .i64 ac], .bool sb]) ∧ Below W.heap.size W w' := by
  obtain ⟨V, hV⟩ : ∃ V, V = ((W.alloc (.cells #[.int .i64 kd, .int .i64 pt, .int .i64 fn, .int .i64 ar, .slice ip n ic] 55 (0, 0))).alloc (.cells #[.int .i64 key, .int .i64 cnt, .int .i64 acc] 105 (0, 0))).alloc (.cells #[.int .i64 0, .int .i64 0, .int .i64 0] 105 (0, 0)) := ⟨_, rfl⟩
  have ab1 := alloc_below W (.cells #[.int .i64 kd, .int .i64 pt, .int .i64 fn, .int .i64 ar, .slice ip n ic] 55 (0, 0))
  have ab2 := alloc_below (W.alloc (.cells #[.int .i64 kd, .int .i64 pt, .int .i64 fn, .int .i64 ar, .slice ip n ic] 55 (0, 0))) (.cells #[.int .i64 key, .int .i64 cnt, .int .i64 acc] 105 (0, 0))
  have ab3 := alloc_below ((W.alloc (.cells #[.int .i64 kd, .int .i64 pt, .int .i64 fn, .int .i64 ar, .slice ip n ic] 55 (0, 0))).alloc (.cells #[.int .i64 key, .int .i64 cnt, .int .i64 acc] 105 (0, 0))) (.cells #[.int .i64 0, .int .i64 0, .int .i64 0] 105 (0, 0))
  have hbV : Below W.heap.size W V := by rw [hV]; exact (ab1.trans (ab2.mono ab1.size)).trans (ab3.mono (Nat.le_trans ab1.size ab2.size))
  have u0 : V.heap[W.heap.size]? = some (.cells #[.int .i64 kd, .int .i64 pt, .int .i64 fn, .int .i64 ar, .slice ip n ic] 55 (0, 0)) := by rw [hV]; exact below_box ab3 (below_box ab2 (heap_alloc_new W _))
  have u1 : V.heap[W.heap.size + 1]? = some (.cells #[.int .i64 key, .int .i64 cnt, .int .i64 acc] 105 (0, 0)) := by
    have e : W.heap.size + 1 = (W.alloc (.cells #[.int .i64 kd, .int .i64 pt, .int .i64 fn, .int .i64 ar, .slice ip n ic] 55 (0, 0))).heap.size := by simp
    rw [hV, e]
    exact below_box ab3 (heap_alloc_new _ _)
  have u2 : V.heap[W.heap.size + 1 + 1]? = some (.cells #[.int .i64 0, .int .i64 0, .int .i64 0] 105 (0, 0)) := by
    have e : W.heap.size + 1 + 1 = ((W.alloc (.cells #[.int .i64 kd, .int .i64 pt, .int .i64 fn, .int .i64 ar, .slice ip n ic] 55 (0, 0))).alloc (.cells #[.int .i64 key, .int .i64 cnt, .int .i64 acc] 105 (0, 0))).heap.size := by simp
    rw [hV, e]
    exact heap_alloc_new _ _
  have HVB := hide hbV
  obtain ⟨sB, hsB⟩ : ∃ sB, W.heap.size = sB := ⟨_, rfl⟩
  rw [hsB] at u0 u1 u2
  have HSB := hide hsB
  have z0 : V.cell? ⟨sB, 2, none⟩ = some (.int .i64 fn) := by simp [World.cell?, u0]
  have z1 : V.cell? ⟨sB + 1, 0, none⟩ = some (.int .i64 key) := by simp [World.cell?, u1]
  have z2 : V.cell? ⟨sB + 1, 1, none⟩ = some (.int .i64 cnt) := by simp [World.cell?, u1]
  have z3 : V.cell? ⟨sB + 1, 2, none⟩ = some (.int .i64 acc) := by simp [World.cell?, u1]
  have HSS : Hid (∀ w', Below V.heap.size V w' → w'.cell? ⟨sB, 2, none⟩ = some (.int .i64 fn) ∧ w'.cell? ⟨sB + 1, 0, none⟩ = some (.int .i64 key) ∧ w'.cell? ⟨sB + 1, 1, none⟩ = some (.int .i64 cnt) ∧ w'.cell? ⟨sB + 1, 2, none⟩ = some (.int .i64 acc)) := hide (fun w' h => ⟨cell_later h z0, cell_later h z1, cell_later h z2, cell_later h z3⟩)
  have B0 : Below V.heap.size V V.drew := (Below.refl _ V).drew
  have hvl : Below V.heap.size V (V.alloc (.cells #[.int .i64 0, .int .i64 0, .int .i64 0] 105 (0, 0))) := alloc_below V _
  have B1 : Below V.heap.size V (V.alloc (.cells #[.int .i64 0, .int .i64 0, .int .i64 0] 105 (0, 0))).drew := hvl.drew
  have HA1 := hide (acc_any (W := V.drew) (fn := fn) (key := key) (cnt := cnt) (acc := acc) (v := v))
  have HA2 := hide (acc_any (W := (V.alloc (.cells #[.int .i64 0, .int .i64 0, .int .i64 0] 105 (0, 0))).drew) (fn := fn) (key := key) (cnt := cnt) (acc := acc) (v := v))
  rw [hac] at HA1 HA2
  have hnz : (V.alloc (.cells #[.int .i64 0, .int .i64 0, .int .i64 0] 105 (0, 0))).drew.heap[V.heap.size]? = some (.cells #[.int .i64 0, .int .i64 0, .int .i64 0] 105 (0, 0)) := heap_alloc_new V _
  have HNZ := hide hnz
  have n0 := World.new_ne V _ z0
  have n1 := World.new_ne V _ z1
  have n2 := World.new_ne V _ z2
  have n3 := World.new_ne V _ z3
  clear ab1 ab2 ab3 hbV hnz hvl
  go_enter Tryz.func63, Tryz.ntmps63
  go_upto_region 1 with fail
  rw [← hV]
  try rw [hsB]
  clear hV hsB
  go_region_held3 (fun w' => w'.cell? ⟨sB, 2, none⟩ = some (.int .i64 fn) ∧ w'.cell? ⟨sB + 1, 0, none⟩ = some (.int .i64 key) ∧ w'.cell? ⟨sB + 1, 1, none⟩ = some (.int .i64 cnt) ∧ w'.cell? ⟨sB + 1, 2, none⟩ = some (.int .i64 acc)) (go_keep)
    (first
      | (go_at_call 82; refine HA1.out.mono ?_; rintro _ x1 ⟨rfl, d1⟩; have D1 := B0.trans (d1.mono B0.size); obtain ⟨i0, i1, i2, i3⟩ := HSS.out _ D1)
      | (go_at_call 82; refine HA2.out.mono ?_; rintro _ x1 ⟨rfl, d1⟩; have D1 := B1.trans (d1.mono B1.size); obtain ⟨i0, i1, i2, i3⟩ := HSS.out _ D1; have hnz1 := below_box d1 HNZ.out; have t0 : x1.cell? ⟨V.heap.size, 0, none⟩ = some (.int .i64 0) := (by simp [World.cell?, hnz1]); have t1 : x1.cell? ⟨V.heap.size, 1, none⟩ = some (.int .i64 0) := (by simp [World.cell?, hnz1]); have t2 : x1.cell? ⟨V.heap.size, 2, none⟩ = some (.int .i64 0) := (by simp [World.cell?, hnz1]); have t3 : ∀ j, x1.frozen? ⟨V.heap.size, j, none⟩ = false := (by intro j; simp [World.frozen?, hnz1])))
  · obtain ⟨X, hX⟩ : ∃ X, X = x1.alloc (.cells #[.int .i64 key, .int .i64 9007199254740992, .int .i64 ac] 105 (0, 0)) := ⟨_, rfl⟩
    have hbx : X.heap[x1.heap.size]? = some (.cells #[.int .i64 key, .int .i64 9007199254740992, .int .i64 ac] 105 (0, 0)) := by rw [hX]; exact heap_alloc_new x1 _
    have hXB : Below V.heap.size V X := by rw [hX]; exact D1.trans ((alloc_below x1 _).mono D1.size)
    rw [← hX]
    obtain ⟨nb, hnb⟩ : ∃ nb, x1.heap.size = nb := ⟨_, rfl⟩
    have HGE : Hid (V.heap.size ≤ nb) := hide (by rw [← hnb]; exact D1.size)
    rw [hnb] at hbx
    try rw [hnb]
    have x0 := below_box hXB u0
    have x1' := below_box hXB u1
    have x2 := below_box hXB u2
    have hs2 : sB + 1 + 1 < V.heap.size := (Array.getElem?_eq_some_iff.1 u2).1
    have hgt : sB + 1 + 1 < nb := Nat.lt_of_lt_of_le hs2 HGE.out
    clear hX hnb D1 d1 HA1 HA2 HNZ B0 B1 n0 n1 n2 n3 i0 i1 i2 i3 z0 z1 z2 z3 HSS
    by_cases hct : cnt < 9007199254740992
    · have dc : decide (cnt < 9007199254740992) = true := decide_eq_true hct
      obtain rfl : cnt + 1 = cn := by rw [← hcn]; unfold countC; rw [if_pos hct]
      have g0 : X.cell? ⟨sB + 1, 1, none⟩ = some (.int .i64 cnt) := by simp [World.cell?, x1']
      have g1 : X.cell? ⟨nb, 1, none⟩ = some (.int .i64 9007199254740992) := by simp [World.cell?, hbx]
      have g2 : X.frozen? ⟨nb, 1, none⟩ = false := by simp [World.frozen?, hbx]
      have p0 := heap_setCell_same X nb 1 _ _ (.int .i64 (cnt + 1)) hbx
      have p1 := heap_set_other (o := 1) (v := .int .i64 (cnt + 1)) x0 (show nb ≠ sB by omega)
      have p2 := heap_set_other (o := 1) (v := .int .i64 (cnt + 1)) x2 (show nb ≠ sB + 1 + 1 by omega)
      have hYB : Below V.heap.size V (X.setCell ⟨nb, 1, none⟩ (.int .i64 (cnt + 1))) := hXB.trans ((Only.set (F := (· = nb)) X nb 1 _ rfl).below hXB.size (fun i e => by have e' : i = nb := e; have := HGE.out; omega))
      obtain ⟨Y, hY⟩ : ∃ Y, Y = X.setCell ⟨nb, 1, none⟩ (.int .i64 (cnt + 1)) := ⟨_, rfl⟩
      rw [← hY] at p0 p1 p2 hYB
      unfold I6 at hc
      go_upto_region 4 with fail
      rw [← hY]
      clear hY g0 g1 g2 hbx x0 x1' x2 hXB dc u0 u1 u2
      have q0 : Y.cell? ⟨nb, 0, none⟩ = some (.int .i64 key) := by simp [World.cell?, p0]
      have q1 : Y.cell? ⟨nb, 1, none⟩ = some (.int .i64 (cnt + 1)) := by simp [World.cell?, p0]
      have q2 : Y.cell? ⟨nb, 2, none⟩ = some (.int .i64 ac) := by simp [World.cell?, p0]
      have q3 : Y.cell? ⟨sB, 0, none⟩ = some (.int .i64 kd) := by simp [World.cell?, p1]
      have q4 : Y.cell? ⟨sB, 3, none⟩ = some (.int .i64 ar) := by simp [World.cell?, p1]
      obtain ⟨f0, f1, f2, f3, f4, f5⟩ := ks_facts p2 (.int .i64 key) (.int .i64 (cnt + 1))
      have HE := hide (set3 p2 (.int .i64 key) (.int .i64 (cnt + 1)) (.int .i64 ac))
      have HBF : Hid (Below W.heap.size W (((Y.setCell ⟨sB + 1 + 1, 0, none⟩ (.int .i64 key)).setCell ⟨sB + 1 + 1, 1, none⟩ (.int .i64 (cnt + 1))).setCell ⟨sB + 1 + 1, 2, none⟩ (.int .i64 ac))) := hide ((HVB.out.trans (hYB.mono HVB.out.size)).trans ((only_set3 Y (sB + 1 + 1) _ _ _).below (Nat.le_trans HVB.out.size hYB.size) (fun i e => by have e' : i = sB + 1 + 1 := e; have := HSB.out; omega)))
      clear p0 p1 p2 hYB
      by_cases h5 : kd = 5
      · subst h5
        obtain rfl : true = sb := by rw [← hsb]; rfl
        go_region
        all_goals
          go_wp2
          refine bodyPost_ret (results_cell_bool rfl _ _ (sB + 1 + 1) 105 _ _ _ rfl HE.out Tryz.underlying105 rfl (by kernel_rfl)) rfl ?_
          first | exact ⟨rfl, HBF.out⟩ | exact ⟨rfl, HBF.out.drew⟩
      · have e5 := ne_eq h5
        obtain rfl : decide ((cnt + 1) < ar) = sb := by rw [← hsb]; unfold staysC countC; rw [e5, if_pos hct]; rfl
        go_region
        all_goals
          go_wp2
          refine bodyPost_ret (results_cell_bool rfl _ _ (sB + 1 + 1) 105 _ _ _ rfl HE.out Tryz.underlying105 rfl (by kernel_rfl)) rfl ?_
          first | exact ⟨rfl, HBF.out⟩ | exact ⟨rfl, HBF.out.drew⟩
    · have dc : decide (cnt < 9007199254740992) = false := decide_eq_false hct
      obtain rfl : 9007199254740992 = cn := by rw [← hcn]; unfold countC; rw [if_neg hct]
      have g0 : X.cell? ⟨sB + 1, 1, none⟩ = some (.int .i64 cnt) := by simp [World.cell?, x1']
      have p0 := hbx
      have p1 := x0
      have p2 := x2
      have hYB := hXB
      go_upto_region 4 with fail
      clear g0 hbx x0 x1' x2 hXB dc u0 u1 u2
      have q0 : X.cell? ⟨nb, 0, none⟩ = some (.int .i64 key) := by simp [World.cell?, p0]
      have q1 : X.cell? ⟨nb, 1, none⟩ = some (.int .i64 9007199254740992) := by simp [World.cell?, p0]
      have q2 : X.cell? ⟨nb, 2, none⟩ = some (.int .i64 ac) := by simp [World.cell?, p0]
      have q3 : X.cell? ⟨sB, 0, none⟩ = some (.int .i64 kd) := by simp [World.cell?, p1]
      have q4 : X.cell? ⟨sB, 3, none⟩ = some (.int .i64 ar) := by simp [World.cell?, p1]
      obtain ⟨f0, f1, f2, f3, f4, f5⟩ := ks_facts p2 (.int .i64 key) (.int .i64 9007199254740992)
      have HE := hide (set3 p2 (.int .i64 key) (.int .i64 9007199254740992) (.int .i64 ac))
      have HBF : Hid (Below W.heap.size W (((X.setCell ⟨sB + 1 + 1, 0, none⟩ (.int .i64 key)).setCell ⟨sB + 1 + 1, 1, none⟩ (.int .i64 9007199254740992)).setCell ⟨sB + 1 + 1, 2, none⟩ (.int .i64 ac))) := hide ((HVB.out.trans (hYB.mono HVB.out.size)).trans ((only_set3 X (sB + 1 + 1) _ _ _).below (Nat.le_trans HVB.out.size hYB.size) (fun i e => by have e' : i = sB + 1 + 1 := e; have := HSB.out; omega)))
      clear p0 p1 p2 hYB
      by_cases h5 : kd = 5
      · subst h5
        obtain rfl : true = sb := by rw [← hsb]; rfl
        go_region
        all_goals
          go_wp2
          refine bodyPost_ret (results_cell_bool rfl _ _ (sB + 1 + 1) 105 _ _ _ rfl HE.out Tryz.underlying105 rfl (by kernel_rfl)) rfl ?_
          first | exact ⟨rfl, HBF.out⟩ | exact ⟨rfl, HBF.out.drew⟩
      · have e5 := ne_eq h5
        obtain rfl : decide (9007199254740992 < ar) = sb := by rw [← hsb]; unfold staysC countC; rw [e5, if_neg hct]; rfl
        go_region
        all_goals
          go_wp2
          refine bodyPost_ret (results_cell_bool rfl _ _ (sB + 1 + 1) 105 _ _ _ rfl HE.out Tryz.underlying105 rfl (by kernel_rfl)) rfl ?_
          first | exact ⟨rfl, HBF.out⟩ | exact ⟨rfl, HBF.out.drew⟩
  · obtain ⟨X, hX⟩ : ∃ X, X = ((x1.setCell ⟨V.heap.size, 0, none⟩ (.int .i64 key)).setCell ⟨V.heap.size, 1, none⟩ (.int .i64 9007199254740992)).setCell ⟨V.heap.size, 2, none⟩ (.int .i64 ac) := ⟨_, rfl⟩
    have hbx : X.heap[V.heap.size]? = some (.cells #[.int .i64 key, .int .i64 9007199254740992, .int .i64 ac] 105 (0, 0)) := by rw [hX]; exact set3 hnz1 _ _ _
    have hXB : Below V.heap.size V X := by rw [hX]; exact D1.trans ((only_set3 x1 V.heap.size _ _ _).below D1.size (fun i e => by have e' : i = V.heap.size := e; omega))
    rw [← hX]
    obtain ⟨nb, hnb⟩ : ∃ nb, V.heap.size = nb := ⟨_, rfl⟩
    have HGE : Hid (V.heap.size ≤ nb) := hide (by rw [← hnb]; exact Nat.le_refl _)
    rw [hnb] at hbx
    try rw [hnb]
    have x0 := below_box hXB u0
    have x1' := below_box hXB u1
    have x2 := below_box hXB u2
    have hs2 : sB + 1 + 1 < V.heap.size := (Array.getElem?_eq_some_iff.1 u2).1
    have hgt : sB + 1 + 1 < nb := Nat.lt_of_lt_of_le hs2 HGE.out
    clear hX hnb D1 d1 HA1 HA2 HNZ B0 B1 n0 n1 n2 n3 i0 i1 i2 i3 z0 z1 z2 z3 HSS
    by_cases hct : cnt < 9007199254740992
    · have dc : decide (cnt < 9007199254740992) = true := decide_eq_true hct
      obtain rfl : cnt + 1 = cn := by rw [← hcn]; unfold countC; rw [if_pos hct]
      have g0 : X.cell? ⟨sB + 1, 1, none⟩ = some (.int .i64 cnt) := by simp [World.cell?, x1']
      have g1 : X.cell? ⟨nb, 1, none⟩ = some (.int .i64 9007199254740992) := by simp [World.cell?, hbx]
      have g2 : X.frozen? ⟨nb, 1, none⟩ = false := by simp [World.frozen?, hbx]
      have p0 := heap_setCell_same X nb 1 _ _ (.int .i64 (cnt + 1)) hbx
      have p1 := heap_set_other (o := 1) (v := .int .i64 (cnt + 1)) x0 (show nb ≠ sB by omega)
      have p2 := heap_set_other (o := 1) (v := .int .i64 (cnt + 1)) x2 (show nb ≠ sB + 1 + 1 by omega)
      have hYB : Below V.heap.size V (X.setCell ⟨nb, 1, none⟩ (.int .i64 (cnt + 1))) := hXB.trans ((Only.set (F := (· = nb)) X nb 1 _ rfl).below hXB.size (fun i e => by have e' : i = nb := e; have := HGE.out; omega))
      obtain ⟨Y, hY⟩ : ∃ Y, Y = X.setCell ⟨nb, 1, none⟩ (.int .i64 (cnt + 1)) := ⟨_, rfl⟩
      rw [← hY] at p0 p1 p2 hYB
      unfold I6 at hc
      go_upto_region 4 with fail
      rw [← hY]
      clear hY g0 g1 g2 hbx x0 x1' x2 hXB dc u0 u1 u2
      have q0 : Y.cell? ⟨nb, 0, none⟩ = some (.int .i64 key) := by simp [World.cell?, p0]
      have q1 : Y.cell? ⟨nb, 1, none⟩ = some (.int .i64 (cnt + 1)) := by simp [World.cell?, p0]
      have q2 : Y.cell? ⟨nb, 2, none⟩ = some (.int .i64 ac) := by simp [World.cell?, p0]
      have q3 : Y.cell? ⟨sB, 0, none⟩ = some (.int .i64 kd) := by simp [World.cell?, p1]
      have q4 : Y.cell? ⟨sB, 3, none⟩ = some (.int .i64 ar) := by simp [World.cell?, p1]
      obtain ⟨f0, f1, f2, f3, f4, f5⟩ := ks_facts p2 (.int .i64 key) (.int .i64 (cnt + 1))
      have HE := hide (set3 p2 (.int .i64 key) (.int .i64 (cnt + 1)) (.int .i64 ac))
      have HBF : Hid (Below W.heap.size W (((Y.setCell ⟨sB + 1 + 1, 0, none⟩ (.int .i64 key)).setCell ⟨sB + 1 + 1, 1, none⟩ (.int .i64 (cnt + 1))).setCell ⟨sB + 1 + 1, 2, none⟩ (.int .i64 ac))) := hide ((HVB.out.trans (hYB.mono HVB.out.size)).trans ((only_set3 Y (sB + 1 + 1) _ _ _).below (Nat.le_trans HVB.out.size hYB.size) (fun i e => by have e' : i = sB + 1 + 1 := e; have := HSB.out; omega)))
      clear p0 p1 p2 hYB
      by_cases h5 : kd = 5
      · subst h5
        obtain rfl : true = sb := by rw [← hsb]; rfl
        go_region
        all_goals
          go_wp2
          refine bodyPost_ret (results_cell_bool rfl _ _ (sB + 1 + 1) 105 _ _ _ rfl HE.out Tryz.underlying105 rfl (by kernel_rfl)) rfl ?_
          first | exact ⟨rfl, HBF.out⟩ | exact ⟨rfl, HBF.out.drew⟩
      · have e5 := ne_eq h5
        obtain rfl : decide ((cnt + 1) < ar) = sb := by rw [← hsb]; unfold staysC countC; rw [e5, if_pos hct]; rfl
        go_region
        all_goals
          go_wp2
          refine bodyPost_ret (results_cell_bool rfl _ _ (sB + 1 + 1) 105 _ _ _ rfl HE.out Tryz.underlying105 rfl (by kernel_rfl)) rfl ?_
          first | exact ⟨rfl, HBF.out⟩ | exact ⟨rfl, HBF.out.drew⟩
    · have dc : decide (cnt < 9007199254740992) = false := decide_eq_false hct
      obtain rfl : 9007199254740992 = cn := by rw [← hcn]; unfold countC; rw [if_neg hct]
      have g0 : X.cell? ⟨sB + 1, 1, none⟩ = some (.int .i64 cnt) := by simp [World.cell?, x1']
      have p0 := hbx
      have p1 := x0
      have p2 := x2
      have hYB := hXB
      go_upto_region 4 with fail
      clear g0 hbx x0 x1' x2 hXB dc u0 u1 u2
      have q0 : X.cell? ⟨nb, 0, none⟩ = some (.int .i64 key) := by simp [World.cell?, p0]
      have q1 : X.cell? ⟨nb, 1, none⟩ = some (.int .i64 9007199254740992) := by simp [World.cell?, p0]
      have q2 : X.cell? ⟨nb, 2, none⟩ = some (.int .i64 ac) := by simp [World.cell?, p0]
      have q3 : X.cell? ⟨sB, 0, none⟩ = some (.int .i64 kd) := by simp [World.cell?, p1]
      have q4 : X.cell? ⟨sB, 3, none⟩ = some (.int .i64 ar) := by simp [World.cell?, p1]
      obtain ⟨f0, f1, f2, f3, f4, f5⟩ := ks_facts p2 (.int .i64 key) (.int .i64 9007199254740992)
      have HE := hide (set3 p2 (.int .i64 key) (.int .i64 9007199254740992) (.int .i64 ac))
      have HBF : Hid (Below W.heap.size W (((X.setCell ⟨sB + 1 + 1, 0, none⟩ (.int .i64 key)).setCell ⟨sB + 1 + 1, 1, none⟩ (.int .i64 9007199254740992)).setCell ⟨sB + 1 + 1, 2, none⟩ (.int .i64 ac))) := hide ((HVB.out.trans (hYB.mono HVB.out.size)).trans ((only_set3 X (sB + 1 + 1) _ _ _).below (Nat.le_trans HVB.out.size hYB.size) (fun i e => by have e' : i = sB + 1 + 1 := e; have := HSB.out; omega)))
      clear p0 p1 p2 hYB
      by_cases h5 : kd = 5
      · subst h5
        obtain rfl : true = sb := by rw [← hsb]; rfl
        go_region
        all_goals
          go_wp2
          refine bodyPost_ret (results_cell_bool rfl _ _ (sB + 1 + 1) 105 _ _ _ rfl HE.out Tryz.underlying105 rfl (by kernel_rfl)) rfl ?_
          first | exact ⟨rfl, HBF.out⟩ | exact ⟨rfl, HBF.out.drew⟩
      · have e5 := ne_eq h5
        obtain rfl : decide (9007199254740992 < ar) = sb := by rw [← hsb]; unfold staysC countC; rw [e5, if_neg hct]; rfl
        go_region
        all_goals
          go_wp2
          refine bodyPost_ret (results_cell_bool rfl _ _ (sB + 1 + 1) 105 _ _ _ rfl HE.out Tryz.underlying105 rfl (by kernel_rfl)) rfl ?_
          first | exact ⟨rfl, HBF.out⟩ | exact ⟨rfl, HBF.out.drew⟩
end Go.Proofs.YtifldnpccgbnkaaGreat.Op
/-
  tell of the program: what is appended to what goes out. The conditions: lengths.
-/
namespace Go.Proofs.YtifldnpccgbnkaaGreat.Op
open Go.RowKit

/-- What goes out: a port and a record. -/
structure PU where
  port : Int
  key : Int
  val : Int
  deriving DecidableEq
instance : Inhabited PU := ⟨⟨0, 0, 0⟩⟩
def PU.cells (x : PU) : List Value := [.int .i64 x.port, .int .i64 x.key, .int .i64 x.val]
theorem PU.len (x : PU) : x.cells.length = 3 := rfl
theorem Tryz.infoPut : (Tryz.prog.info? 103).map (fun i => (i.zero, i.size, i.bytes)) = some (some (.agg #[.int .i64 0, .int .i64 0, .int .i64 0]), 3, 24) := by kernel_rfl
def tellC (kd : Int) (sb : Bool) (key acc : Int) : List PU := if (kd == 6 && sb) = true then [] else [⟨0, key, acc⟩]

set_option maxRecDepth 100000 in
set_option maxHeartbeats 4000000 in
theorem tell_any {W : World} {base m c : Nat} {p : Option Addr} {xs : List PU} {kd pt fn ar key cnt acc : Int} {ip : Option Addr} {n ic : Nat} {sb : Bool} (ho : W.ownsRow base 103 3 (.slice p m c) m (xs.flatMap PU.cells)) (hbs : base ≤ W.heap.size) (hm : (m + 1) * 24 ≤ 140737488355328) :
    Calls Tryz.prog 67 #[.slice p m c, .agg #[.int .i64 kd, .int .i64 pt, .int .i64 fn, .int .i64 ar, .slice ip n ic], .agg #[.int .i64 key, .int .i64 cnt, .int .i64 acc], .bool sb] W fun e w' => ∃ p' c', e = .returned (.slice p' (m + (tellC kd sb key acc).length) c') ∧ w'.ownsRow base 103 3 (.slice p' (m + (tellC kd sb key acc).length) c') (m + (tellC kd sb key acc).length) ((xs ++ tellC kd sb key acc).flatMap PU.cells) ∧ Only (fun i => (Value.slice p m c).ownBlock = some i) W w' := by
  obtain ⟨i0, hI0, hz0, hz1, hz2⟩ := info_parts Tryz.infoPut
  have ab1 := alloc_below W (.cells #[.int .i64 kd, .int .i64 pt, .int .i64 fn, .int .i64 ar, .slice ip n ic] 55 (0, 0))
  have ab2 := alloc_below (W.alloc (.cells #[.int .i64 kd, .int .i64 pt, .int .i64 fn, .int .i64 ar, .slice ip n ic] 55 (0, 0))) (.cells #[.int .i64 key, .int .i64 cnt, .int .i64 acc] 105 (0, 0))
  obtain ⟨V, hV⟩ : ∃ V, V = (W.alloc (.cells #[.int .i64 kd, .int .i64 pt, .int .i64 fn, .int .i64 ar, .slice ip n ic] 55 (0, 0))).alloc (.cells #[.int .i64 key, .int .i64 cnt, .int .i64 acc] 105 (0, 0)) := ⟨_, rfl⟩
  have hbV : Below W.heap.size W V := by rw [hV]; exact ab1.trans (ab2.mono ab1.size)
  have u0 : V.heap[W.heap.size]? = some (.cells #[.int .i64 kd, .int .i64 pt, .int .i64 fn, .int .i64 ar, .slice ip n ic] 55 (0, 0)) := by rw [hV]; exact below_box ab2 (heap_alloc_new W _)
  have u1 : V.heap[W.heap.size + 1]? = some (.cells #[.int .i64 key, .int .i64 cnt, .int .i64 acc] 105 (0, 0)) := by
    have e : W.heap.size + 1 = (W.alloc (.cells #[.int .i64 kd, .int .i64 pt, .int .i64 fn, .int .i64 ar, .slice ip n ic] 55 (0, 0))).heap.size := by simp
    rw [hV, e]
    exact heap_alloc_new _ _
  have HVB := hide hbV
  have HO := hide (ownsRow_later ho hbV)
  obtain ⟨sB, hsB⟩ : ∃ sB, W.heap.size = sB := ⟨_, rfl⟩
  rw [hsB] at u0 u1
  have z0 : V.cell? ⟨sB, 0, none⟩ = some (.int .i64 kd) := by simp [World.cell?, u0]
  have z1 : V.cell? ⟨sB + 1, 0, none⟩ = some (.int .i64 key) := by simp [World.cell?, u1]
  have z2 : V.cell? ⟨sB + 1, 2, none⟩ = some (.int .i64 acc) := by simp [World.cell?, u1]
  have HBS : Hid (base ≤ V.heap.size) := hide (Nat.le_trans hbs hbV.size)
  clear ab1 ab2 hbV ho u0 u1
  by_cases hq : (kd == 6 && sb) = true
  · have ht : tellC kd sb key acc = [] := by unfold tellC; rw [if_pos hq]
    rw [ht, List.append_nil]
    simp only [Bool.and_eq_true, beq_iff_eq] at hq
    obtain ⟨rfl, rfl⟩ := hq
    clear ht
    go_enter Tryz.func67, Tryz.ntmps67
    go_upto_region 1 with fail
    rw [← hV]
    try rw [hsB]
    clear hV hsB
    go_wp2
    go_ret
    exact ⟨p, c, rfl, HO.out, Only.fresh HVB.out _⟩
  · have ht : tellC kd sb key acc = [⟨0, key, acc⟩] := by unfold tellC; rw [if_neg hq]
    rw [ht]
    have hq2 : (kd == 6 && sb) = false := by simpa using hq
    have HK1 : Hid (m + 1 ≤ maxLen) := by show _ ≤ _; unfold maxLen; omega
    have HK2 : Hid ((m + 1) * 24 ≤ 140737488355328) := hide hm
    have ab := alloc_below V (.cells #[.int .i64 0, .int .i64 key, .int .i64 acc] 103 (0, 0))
    have HRW := hide (ownsRow_later HO.out ab)
    have HSG : Hid (Seg (V.alloc (.cells #[.int .i64 0, .int .i64 key, .int .i64 acc] 103 (0, 0))) 3 (.slice (some ⟨V.heap.size, 0, none⟩) 1 1) 1 [.int .i64 0, .int .i64 key, .int .i64 acc]) := hide (Seg.news (heap_alloc_new V _) (by simp [Value.oneCell']) rfl (Nat.le_refl _) (by decide))
    have HBB : Hid (base ≤ (V.alloc (.cells #[.int .i64 0, .int .i64 key, .int .i64 acc] 103 (0, 0))).heap.size) := hide (Nat.le_trans HBS.out ab.size)
    clear ht hm ab
    by_cases h66 : kd = 6
    · subst h66
      obtain rfl : sb = false := by simpa using hq2
      clear hq hq2
      go_enter Tryz.func67, Tryz.ntmps67
      go_upto_region 1 with fail
      rw [← hV]
      try rw [hsB]
      clear hV hsB
      go_wp2_with (at_builtin; refine append_cells _ rfl (.tmp 16) (.tmp 23) 92 rfl base 103 i0 (.agg #[.int .i64 0, .int .i64 0, .int .i64 0]) 3 24 Tryz.underlying92 hI0 hz0 hz1 hz2 rfl (by decide) (.slice p m c) m _ rfl HRW.out (.slice (some ⟨V.heap.size, 0, none⟩) 1 1) 1 _ rfl HSG.out HK1.out HK2.out HBB.out ?_)
      intro p6 c6 w6 o6 g6
      have HN : Hid (Only (fun i => (Value.slice p m c).ownBlock = some i) W w6) := hide (((Only.fresh HVB.out _).trans (Only.alloc _ _ _)).trans (Only.of_grown g6 (fun k e => e)))
      have HO6 : Hid (w6.ownsRow base 103 3 (.slice p6 (m + 1) c6) (m + 1) ((xs ++ [(⟨0, key, acc⟩ : PU)]).flatMap PU.cells)) := by
        refine hide ?_
        rw [List.flatMap_append]
        exact o6
      clear o6 g6
      go_wp2
      go_ret
      exact ⟨p6, c6, rfl, HO6.out, HN.out⟩
    · have e66 := ne_eq h66
      clear hq hq2 h66
      go_enter Tryz.func67, Tryz.ntmps67
      go_upto_region 1 with fail
      rw [← hV]
      try rw [hsB]
      clear hV hsB
      go_wp2_with (at_builtin; refine append_cells _ rfl (.tmp 16) (.tmp 23) 92 rfl base 103 i0 (.agg #[.int .i64 0, .int .i64 0, .int .i64 0]) 3 24 Tryz.underlying92 hI0 hz0 hz1 hz2 rfl (by decide) (.slice p m c) m _ rfl HRW.out (.slice (some ⟨V.heap.size, 0, none⟩) 1 1) 1 _ rfl HSG.out HK1.out HK2.out HBB.out ?_)
      intro p6 c6 w6 o6 g6
      have HN : Hid (Only (fun i => (Value.slice p m c).ownBlock = some i) W w6) := hide (((Only.fresh HVB.out _).trans (Only.alloc _ _ _)).trans (Only.of_grown g6 (fun k e => e)))
      have HO6 : Hid (w6.ownsRow base 103 3 (.slice p6 (m + 1) c6) (m + 1) ((xs ++ [(⟨0, key, acc⟩ : PU)]).flatMap PU.cells)) := by
        refine hide ?_
        rw [List.flatMap_append]
        exact o6
      clear o6 g6
      go_wp2
      go_ret
      exact ⟨p6, c6, rfl, HO6.out, HN.out⟩
end Go.Proofs.YtifldnpccgbnkaaGreat.Op
/-
  pass of the program: what an operator that keeps nothing lets out. The conditions: lengths, and that numbers are of their types.
-/
namespace Go.Proofs.YtifldnpccgbnkaaGreat.Op
open Go.RowKit

def passKinds (kd : Int) : Bool := kd == 1 || kd == 2 || kd == 3 || kd == 4 || kd == 8
def passC (kd fn ar ky vl : Int) : List PU := if passKinds kd = true then (if holdsC kd fn ar vl = true then [⟨0, (valueC kd fn ar ky vl).1, (valueC kd fn ar ky vl).2⟩] else []) else if kd = 7 then [⟨restC ky ar, ky, vl⟩] else []

set_option maxRecDepth 100000 in
set_option maxHeartbeats 8000000 in
theorem pass_any {W : World} {base m c : Nat} {p : Option Addr} {xs : List PU} {kd pt fn ar ky vl : Int} {ip : Option Addr} {n ic : Nat} (hk : I6 ky) (hv : I6 vl) (ha : I6 ar) (ho : W.ownsRow base 103 3 (.slice p m c) m (xs.flatMap PU.cells)) (hbs : base ≤ W.heap.size) (hm : (m + 1) * 24 ≤ 140737488355328) :
    Calls Tryz.prog 59 #[.slice p m c, .agg #[.int .i64 kd, .int .i64 pt, .int .i64 fn, .int .i64 ar, .slice ip n ic], .agg #[.int .i64 ky, .int .i64 vl]] W fun e w' => ∃ p' c', e = .returned (.slice p' (m + (passC kd fn ar ky vl).length) c') ∧ w'.ownsRow base 103 3 (.slice p' (m + (passC kd fn ar ky vl).length) c') (m + (passC kd fn ar ky vl).length) ((xs ++ passC kd fn ar ky vl).flatMap PU.cells) ∧ Only (fun i => (Value.slice p m c).ownBlock = some i) W w' := by
  obtain ⟨i0, hI0, hz0, hz1, hz2⟩ := info_parts Tryz.infoPut
  have ab1 := alloc_below W (.cells #[.int .i64 kd, .int .i64 pt, .int .i64 fn, .int .i64 ar, .slice ip n ic] 55 (0, 0))
  have ab2 := alloc_below (W.alloc (.cells #[.int .i64 kd, .int .i64 pt, .int .i64 fn, .int .i64 ar, .slice ip n ic] 55 (0, 0))) (.cells #[.int .i64 ky, .int .i64 vl] 71 (0, 0))
  obtain ⟨V, hV⟩ : ∃ V, V = (W.alloc (.cells #[.int .i64 kd, .int .i64 pt, .int .i64 fn, .int .i64 ar, .slice ip n ic] 55 (0, 0))).alloc (.cells #[.int .i64 ky, .int .i64 vl] 71 (0, 0)) := ⟨_, rfl⟩
  have hbV : Below W.heap.size W V := by rw [hV]; exact ab1.trans (ab2.mono ab1.size)
  have u0 : V.heap[W.heap.size]? = some (.cells #[.int .i64 kd, .int .i64 pt, .int .i64 fn, .int .i64 ar, .slice ip n ic] 55 (0, 0)) := by rw [hV]; exact below_box ab2 (heap_alloc_new W _)
  have u1 : V.heap[W.heap.size + 1]? = some (.cells #[.int .i64 ky, .int .i64 vl] 71 (0, 0)) := by
    have e : W.heap.size + 1 = (W.alloc (.cells #[.int .i64 kd, .int .i64 pt, .int .i64 fn, .int .i64 ar, .slice ip n ic] 55 (0, 0))).heap.size := by simp
    rw [hV, e]
    exact heap_alloc_new _ _
  have HVB := hide hbV
  have HO := hide (ownsRow_later ho hbV)
  have HOW0 := hide ho
  obtain ⟨sB, hsB⟩ : ∃ sB, W.heap.size = sB := ⟨_, rfl⟩
  rw [hsB] at u0 u1
  have HBS : Hid (base ≤ V.heap.size) := hide (Nat.le_trans hbs hbV.size)
  have HK1 : Hid (m + 1 ≤ maxLen) := by show _ ≤ _; unfold maxLen; omega
  have HK2 : Hid ((m + 1) * 24 ≤ 140737488355328) := hide hm
  have z0 : V.cell? ⟨sB, 0, none⟩ = some (.int .i64 kd) := by simp [World.cell?, u0]
  have z1 : V.cell? ⟨sB, 1, none⟩ = some (.int .i64 pt) := by simp [World.cell?, u0]
  have z2 : V.cell? ⟨sB, 2, none⟩ = some (.int .i64 fn) := by simp [World.cell?, u0]
  have z3 : V.cell? ⟨sB, 3, none⟩ = some (.int .i64 ar) := by simp [World.cell?, u0]
  have z4 : V.cell? ⟨sB, 4, none⟩ = some (.slice ip n ic) := by simp [World.cell?, u0]
  have r0 : V.cell? ⟨sB + 1, 0, none⟩ = some (.int .i64 ky) := by simp [World.cell?, u1]
  have r1 : V.cell? ⟨sB + 1, 1, none⟩ = some (.int .i64 vl) := by simp [World.cell?, u1]
  clear ab1 ab2 hbV ho u0 u1 hm
  by_cases h1 : kd = 1
  · subst h1
    obtain ⟨hb, hhb⟩ : ∃ hb, holdsC 1 fn ar vl = hb := ⟨_, rfl⟩
    obtain ⟨k', v', hkv⟩ : ∃ a b, valueC 1 fn ar ky vl = (a, b) := ⟨_, _, rfl⟩
    have HH := hide (holds_any (W := V) (kd := 1) (pt := pt) (fn := fn) (ar := ar) (ky := ky) (vl := vl) (ip := ip) (n := n) (ic := ic) hhb)
    have HV := hide (fun (w : World) => value_any (W := w) (kd := 1) (pt := pt) (fn := fn) (ar := ar) (ip := ip) (n := n) (ic := ic) hk hv ha hkv)
    cases hb with
    | false =>
      have hp : passC 1 fn ar ky vl = [] := by unfold passC; rw [if_pos (by decide), hhb]; rfl
      rw [hp, List.append_nil]
      clear hp hhb hkv hk hv ha
      go_enter Tryz.func59, Tryz.ntmps59
      go_upto_region 1 with fail
      rw [← hV]
      try rw [hsB]
      clear hV hsB
      go_wp2_with fail
      refine HH.out.mono ?_
      rintro _ w1 ⟨rfl, b1⟩
      have HO1 := hide (ownsRow_later HO.out b1)
      have HB1 := hide (HVB.out.trans (b1.mono HVB.out.size))
      clear b1 HH
      go_wp2
      go_ret
      exact ⟨p, c, rfl, HO1.out, Only.fresh HB1.out _⟩
    | true =>
      have hp : passC 1 fn ar ky vl = [⟨0, k', v'⟩] := by unfold passC; rw [if_pos (by decide), hhb, hkv]; rfl
      rw [hp]
      clear hp hhb hkv hk hv ha
      go_enter Tryz.func59, Tryz.ntmps59
      go_upto_region 1 with fail
      rw [← hV]
      try rw [hsB]
      clear hV hsB
      go_wp2_with fail
      refine HH.out.mono ?_
      rintro _ w1 ⟨rfl, b1⟩
      have HO1 := hide (ownsRow_later HO.out b1)
      have HB1 := hide (HVB.out.trans (b1.mono HVB.out.size))
      have HBS1 : Hid (base ≤ w1.heap.size) := hide (Nat.le_trans HBS.out b1.size)
      have y0 := cell_later b1 z0
      have y1 := cell_later b1 z1
      have y2 := cell_later b1 z2
      have y3 := cell_later b1 z3
      have y4 := cell_later b1 z4
      have y5 := cell_later b1 r0
      have y6 := cell_later b1 r1
      clear b1 HH z0 z1 z2 z3 z4 r0 r1
      go_wp2_with fail
      refine (HV.out w1).mono ?_
      rintro _ w2 ⟨rfl, b2⟩
      have HB2 := hide (HB1.out.trans (b2.mono HB1.out.size))
      have ab := alloc_below w2 (.cells #[.int .i64 0, .int .i64 k', .int .i64 v'] 103 (0, 0))
      have HRW := hide (ownsRow_later (ownsRow_later HO1.out b2) ab)
      have HSG : Hid (Seg (w2.alloc (.cells #[.int .i64 0, .int .i64 k', .int .i64 v'] 103 (0, 0))) 3 (.slice (some ⟨w2.heap.size, 0, none⟩) 1 1) 1 [.int .i64 0, .int .i64 k', .int .i64 v']) := hide (Seg.news (heap_alloc_new w2 _) (by simp [Value.oneCell']) rfl (Nat.le_refl _) (by decide))
      have HBB : Hid (base ≤ (w2.alloc (.cells #[.int .i64 0, .int .i64 k', .int .i64 v'] 103 (0, 0))).heap.size) := hide (Nat.le_trans HBS1.out (Nat.le_trans b2.size ab.size))
      clear b2 ab HV y0 y1 y2 y3 y4 y5 y6
      go_wp2_with (at_builtin; refine append_cells _ rfl (.tmp 18) (.tmp 23) 92 rfl base 103 i0 (.agg #[.int .i64 0, .int .i64 0, .int .i64 0]) 3 24 Tryz.underlying92 hI0 hz0 hz1 hz2 rfl (by decide) (.slice p m c) m _ rfl HRW.out (.slice (some ⟨w2.heap.size, 0, none⟩) 1 1) 1 _ rfl HSG.out HK1.out HK2.out HBB.out ?_)
      intro p6 c6 w6 o6 g6
      have HN : Hid (Only (fun i => (Value.slice p m c).ownBlock = some i) W w6) := hide (((Only.fresh HB2.out _).trans (Only.alloc _ _ _)).trans (Only.of_grown g6 (fun k e => e)))
      have HO6 : Hid (w6.ownsRow base 103 3 (.slice p6 (m + 1) c6) (m + 1) ((xs ++ [(⟨0, k', v'⟩ : PU)]).flatMap PU.cells)) := by
        refine hide ?_
        rw [List.flatMap_append]
        exact o6
      clear o6 g6
      go_wp2
      go_ret
      exact ⟨p6, c6, rfl, HO6.out, HN.out⟩
  have e1 := ne_eq h1
  by_cases h2 : kd = 2
  · subst h2
    obtain ⟨hb, hhb⟩ : ∃ hb, holdsC 2 fn ar vl = hb := ⟨_, rfl⟩
    obtain ⟨k', v', hkv⟩ : ∃ a b, valueC 2 fn ar ky vl = (a, b) := ⟨_, _, rfl⟩
    have HH := hide (holds_any (W := V) (kd := 2) (pt := pt) (fn := fn) (ar := ar) (ky := ky) (vl := vl) (ip := ip) (n := n) (ic := ic) hhb)
    have HV := hide (fun (w : World) => value_any (W := w) (kd := 2) (pt := pt) (fn := fn) (ar := ar) (ip := ip) (n := n) (ic := ic) hk hv ha hkv)
    cases hb with
    | false =>
      have hp : passC 2 fn ar ky vl = [] := by unfold passC; rw [if_pos (by decide), hhb]; rfl
      rw [hp, List.append_nil]
      clear hp hhb hkv hk hv ha
      go_enter Tryz.func59, Tryz.ntmps59
      go_upto_region 1 with fail
      rw [← hV]
      try rw [hsB]
      clear hV hsB
      go_wp2_with fail
      refine HH.out.mono ?_
      rintro _ w1 ⟨rfl, b1⟩
      have HO1 := hide (ownsRow_later HO.out b1)
      have HB1 := hide (HVB.out.trans (b1.mono HVB.out.size))
      clear b1 HH
      go_wp2
      go_ret
      exact ⟨p, c, rfl, HO1.out, Only.fresh HB1.out _⟩
    | true =>
      have hp : passC 2 fn ar ky vl = [⟨0, k', v'⟩] := by unfold passC; rw [if_pos (by decide), hhb, hkv]; rfl
      rw [hp]
      clear hp hhb hkv hk hv ha
      go_enter Tryz.func59, Tryz.ntmps59
      go_upto_region 1 with fail
      rw [← hV]
      try rw [hsB]
      clear hV hsB
      go_wp2_with fail
      refine HH.out.mono ?_
      rintro _ w1 ⟨rfl, b1⟩
      have HO1 := hide (ownsRow_later HO.out b1)
      have HB1 := hide (HVB.out.trans (b1.mono HVB.out.size))
      have HBS1 : Hid (base ≤ w1.heap.size) := hide (Nat.le_trans HBS.out b1.size)
      have y0 := cell_later b1 z0
      have y1 := cell_later b1 z1
      have y2 := cell_later b1 z2
      have y3 := cell_later b1 z3
      have y4 := cell_later b1 z4
      have y5 := cell_later b1 r0
      have y6 := cell_later b1 r1
      clear b1 HH z0 z1 z2 z3 z4 r0 r1
      go_wp2_with fail
      refine (HV.out w1).mono ?_
      rintro _ w2 ⟨rfl, b2⟩
      have HB2 := hide (HB1.out.trans (b2.mono HB1.out.size))
      have ab := alloc_below w2 (.cells #[.int .i64 0, .int .i64 k', .int .i64 v'] 103 (0, 0))
      have HRW := hide (ownsRow_later (ownsRow_later HO1.out b2) ab)
      have HSG : Hid (Seg (w2.alloc (.cells #[.int .i64 0, .int .i64 k', .int .i64 v'] 103 (0, 0))) 3 (.slice (some ⟨w2.heap.size, 0, none⟩) 1 1) 1 [.int .i64 0, .int .i64 k', .int .i64 v']) := hide (Seg.news (heap_alloc_new w2 _) (by simp [Value.oneCell']) rfl (Nat.le_refl _) (by decide))
      have HBB : Hid (base ≤ (w2.alloc (.cells #[.int .i64 0, .int .i64 k', .int .i64 v'] 103 (0, 0))).heap.size) := hide (Nat.le_trans HBS1.out (Nat.le_trans b2.size ab.size))
      clear b2 ab HV y0 y1 y2 y3 y4 y5 y6
      go_wp2_with (at_builtin; refine append_cells _ rfl (.tmp 18) (.tmp 23) 92 rfl base 103 i0 (.agg #[.int .i64 0, .int .i64 0, .int .i64 0]) 3 24 Tryz.underlying92 hI0 hz0 hz1 hz2 rfl (by decide) (.slice p m c) m _ rfl HRW.out (.slice (some ⟨w2.heap.size, 0, none⟩) 1 1) 1 _ rfl HSG.out HK1.out HK2.out HBB.out ?_)
      intro p6 c6 w6 o6 g6
      have HN : Hid (Only (fun i => (Value.slice p m c).ownBlock = some i) W w6) := hide (((Only.fresh HB2.out _).trans (Only.alloc _ _ _)).trans (Only.of_grown g6 (fun k e => e)))
      have HO6 : Hid (w6.ownsRow base 103 3 (.slice p6 (m + 1) c6) (m + 1) ((xs ++ [(⟨0, k', v'⟩ : PU)]).flatMap PU.cells)) := by
        refine hide ?_
        rw [List.flatMap_append]
        exact o6
      clear o6 g6
      go_wp2
      go_ret
      exact ⟨p6, c6, rfl, HO6.out, HN.out⟩
  have e2 := ne_eq h2
  by_cases h3 : kd = 3
  · subst h3
    obtain ⟨hb, hhb⟩ : ∃ hb, holdsC 3 fn ar vl = hb := ⟨_, rfl⟩
    obtain ⟨k', v', hkv⟩ : ∃ a b, valueC 3 fn ar ky vl = (a, b) := ⟨_, _, rfl⟩
    have HH := hide (holds_any (W := V) (kd := 3) (pt := pt) (fn := fn) (ar := ar) (ky := ky) (vl := vl) (ip := ip) (n := n) (ic := ic) hhb)
    have HV := hide (fun (w : World) => value_any (W := w) (kd := 3) (pt := pt) (fn := fn) (ar := ar) (ip := ip) (n := n) (ic := ic) hk hv ha hkv)
    cases hb with
    | false =>
      have hp : passC 3 fn ar ky vl = [] := by unfold passC; rw [if_pos (by decide), hhb]; rfl
      rw [hp, List.append_nil]
      clear hp hhb hkv hk hv ha
      go_enter Tryz.func59, Tryz.ntmps59
      go_upto_region 1 with fail
      rw [← hV]
      try rw [hsB]
      clear hV hsB
      go_wp2_with fail
      refine HH.out.mono ?_
      rintro _ w1 ⟨rfl, b1⟩
      have HO1 := hide (ownsRow_later HO.out b1)
      have HB1 := hide (HVB.out.trans (b1.mono HVB.out.size))
      clear b1 HH
      go_wp2
      go_ret
      exact ⟨p, c, rfl, HO1.out, Only.fresh HB1.out _⟩
    | true =>
      have hp : passC 3 fn ar ky vl = [⟨0, k', v'⟩] := by unfold passC; rw [if_pos (by decide), hhb, hkv]; rfl
      rw [hp]
      clear hp hhb hkv hk hv ha
      go_enter Tryz.func59, Tryz.ntmps59
      go_upto_region 1 with fail
      rw [← hV]
      try rw [hsB]
      clear hV hsB
      go_wp2_with fail
      refine HH.out.mono ?_
      rintro _ w1 ⟨rfl, b1⟩
      have HO1 := hide (ownsRow_later HO.out b1)
      have HB1 := hide (HVB.out.trans (b1.mono HVB.out.size))
      have HBS1 : Hid (base ≤ w1.heap.size) := hide (Nat.le_trans HBS.out b1.size)
      have y0 := cell_later b1 z0
      have y1 := cell_later b1 z1
      have y2 := cell_later b1 z2
      have y3 := cell_later b1 z3
      have y4 := cell_later b1 z4
      have y5 := cell_later b1 r0
      have y6 := cell_later b1 r1
      clear b1 HH z0 z1 z2 z3 z4 r0 r1
      go_wp2_with fail
      refine (HV.out w1).mono ?_
      rintro _ w2 ⟨rfl, b2⟩
      have HB2 := hide (HB1.out.trans (b2.mono HB1.out.size))
      have ab := alloc_below w2 (.cells #[.int .i64 0, .int .i64 k', .int .i64 v'] 103 (0, 0))
      have HRW := hide (ownsRow_later (ownsRow_later HO1.out b2) ab)
      have HSG : Hid (Seg (w2.alloc (.cells #[.int .i64 0, .int .i64 k', .int .i64 v'] 103 (0, 0))) 3 (.slice (some ⟨w2.heap.size, 0, none⟩) 1 1) 1 [.int .i64 0, .int .i64 k', .int .i64 v']) := hide (Seg.news (heap_alloc_new w2 _) (by simp [Value.oneCell']) rfl (Nat.le_refl _) (by decide))
      have HBB : Hid (base ≤ (w2.alloc (.cells #[.int .i64 0, .int .i64 k', .int .i64 v'] 103 (0, 0))).heap.size) := hide (Nat.le_trans HBS1.out (Nat.le_trans b2.size ab.size))
      clear b2 ab HV y0 y1 y2 y3 y4 y5 y6
      go_wp2_with (at_builtin; refine append_cells _ rfl (.tmp 18) (.tmp 23) 92 rfl base 103 i0 (.agg #[.int .i64 0, .int .i64 0, .int .i64 0]) 3 24 Tryz.underlying92 hI0 hz0 hz1 hz2 rfl (by decide) (.slice p m c) m _ rfl HRW.out (.slice (some ⟨w2.heap.size, 0, none⟩) 1 1) 1 _ rfl HSG.out HK1.out HK2.out HBB.out ?_)
      intro p6 c6 w6 o6 g6
      have HN : Hid (Only (fun i => (Value.slice p m c).ownBlock = some i) W w6) := hide (((Only.fresh HB2.out _).trans (Only.alloc _ _ _)).trans (Only.of_grown g6 (fun k e => e)))
      have HO6 : Hid (w6.ownsRow base 103 3 (.slice p6 (m + 1) c6) (m + 1) ((xs ++ [(⟨0, k', v'⟩ : PU)]).flatMap PU.cells)) := by
        refine hide ?_
        rw [List.flatMap_append]
        exact o6
      clear o6 g6
      go_wp2
      go_ret
      exact ⟨p6, c6, rfl, HO6.out, HN.out⟩
  have e3 := ne_eq h3
  by_cases h4 : kd = 4
  · subst h4
    obtain ⟨hb, hhb⟩ : ∃ hb, holdsC 4 fn ar vl = hb := ⟨_, rfl⟩
    obtain ⟨k', v', hkv⟩ : ∃ a b, valueC 4 fn ar ky vl = (a, b) := ⟨_, _, rfl⟩
    have HH := hide (holds_any (W := V) (kd := 4) (pt := pt) (fn := fn) (ar := ar) (ky := ky) (vl := vl) (ip := ip) (n := n) (ic := ic) hhb)
    have HV := hide (fun (w : World) => value_any (W := w) (kd := 4) (pt := pt) (fn := fn) (ar := ar) (ip := ip) (n := n) (ic := ic) hk hv ha hkv)
    cases hb with
    | false =>
      have hp : passC 4 fn ar ky vl = [] := by unfold passC; rw [if_pos (by decide), hhb]; rfl
      rw [hp, List.append_nil]
      clear hp hhb hkv hk hv ha
      go_enter Tryz.func59, Tryz.ntmps59
      go_upto_region 1 with fail
      rw [← hV]
      try rw [hsB]
      clear hV hsB
      go_wp2_with fail
      refine HH.out.mono ?_
      rintro _ w1 ⟨rfl, b1⟩
      have HO1 := hide (ownsRow_later HO.out b1)
      have HB1 := hide (HVB.out.trans (b1.mono HVB.out.size))
      clear b1 HH
      go_wp2
      go_ret
      exact ⟨p, c, rfl, HO1.out, Only.fresh HB1.out _⟩
    | true =>
      have hp : passC 4 fn ar ky vl = [⟨0, k', v'⟩] := by unfold passC; rw [if_pos (by decide), hhb, hkv]; rfl
      rw [hp]
      clear hp hhb hkv hk hv ha
      go_enter Tryz.func59, Tryz.ntmps59
      go_upto_region 1 with fail
      rw [← hV]
      try rw [hsB]
      clear hV hsB
      go_wp2_with fail
      refine HH.out.mono ?_
      rintro _ w1 ⟨rfl, b1⟩
      have HO1 := hide (ownsRow_later HO.out b1)
      have HB1 := hide (HVB.out.trans (b1.mono HVB.out.size))
      have HBS1 : Hid (base ≤ w1.heap.size) := hide (Nat.le_trans HBS.out b1.size)
      have y0 := cell_later b1 z0
      have y1 := cell_later b1 z1
      have y2 := cell_later b1 z2
      have y3 := cell_later b1 z3
      have y4 := cell_later b1 z4
      have y5 := cell_later b1 r0
      have y6 := cell_later b1 r1
      clear b1 HH z0 z1 z2 z3 z4 r0 r1
      go_wp2_with fail
      refine (HV.out w1).mono ?_
      rintro _ w2 ⟨rfl, b2⟩
      have HB2 := hide (HB1.out.trans (b2.mono HB1.out.size))
      have ab := alloc_below w2 (.cells #[.int .i64 0, .int .i64 k', .int .i64 v'] 103 (0, 0))
      have HRW := hide (ownsRow_later (ownsRow_later HO1.out b2) ab)
      have HSG : Hid (Seg (w2.alloc (.cells #[.int .i64 0, .int .i64 k', .int .i64 v'] 103 (0, 0))) 3 (.slice (some ⟨w2.heap.size, 0, none⟩) 1 1) 1 [.int .i64 0, .int .i64 k', .int .i64 v']) := hide (Seg.news (heap_alloc_new w2 _) (by simp [Value.oneCell']) rfl (Nat.le_refl _) (by decide))
      have HBB : Hid (base ≤ (w2.alloc (.cells #[.int .i64 0, .int .i64 k', .int .i64 v'] 103 (0, 0))).heap.size) := hide (Nat.le_trans HBS1.out (Nat.le_trans b2.size ab.size))
      clear b2 ab HV y0 y1 y2 y3 y4 y5 y6
      go_wp2_with (at_builtin; refine append_cells _ rfl (.tmp 18) (.tmp 23) 92 rfl base 103 i0 (.agg #[.int .i64 0, .int .i64 0, .int .i64 0]) 3 24 Tryz.underlying92 hI0 hz0 hz1 hz2 rfl (by decide) (.slice p m c) m _ rfl HRW.out (.slice (some ⟨w2.heap.size, 0, none⟩) 1 1) 1 _ rfl HSG.out HK1.out HK2.out HBB.out ?_)
      intro p6 c6 w6 o6 g6
      have HN : Hid (Only (fun i => (Value.slice p m c).ownBlock = some i) W w6) := hide (((Only.fresh HB2.out _).trans (Only.alloc _ _ _)).trans (Only.of_grown g6 (fun k e => e)))
      have HO6 : Hid (w6.ownsRow base 103 3 (.slice p6 (m + 1) c6) (m + 1) ((xs ++ [(⟨0, k', v'⟩ : PU)]).flatMap PU.cells)) := by
        refine hide ?_
        rw [List.flatMap_append]
        exact o6
      clear o6 g6
      go_wp2
      go_ret
      exact ⟨p6, c6, rfl, HO6.out, HN.out⟩
  have e4 := ne_eq h4
  by_cases h8 : kd = 8
  · subst h8
    obtain ⟨hb, hhb⟩ : ∃ hb, holdsC 8 fn ar vl = hb := ⟨_, rfl⟩
    obtain ⟨k', v', hkv⟩ : ∃ a b, valueC 8 fn ar ky vl = (a, b) := ⟨_, _, rfl⟩
    have HH := hide (holds_any (W := V) (kd := 8) (pt := pt) (fn := fn) (ar := ar) (ky := ky) (vl := vl) (ip := ip) (n := n) (ic := ic) hhb)
    have HV := hide (fun (w : World) => value_any (W := w) (kd := 8) (pt := pt) (fn := fn) (ar := ar) (ip := ip) (n := n) (ic := ic) hk hv ha hkv)
    cases hb with
    | false =>
      have hp : passC 8 fn ar ky vl = [] := by unfold passC; rw [if_pos (by decide), hhb]; rfl
      rw [hp, List.append_nil]
      clear hp hhb hkv hk hv ha
      go_enter Tryz.func59, Tryz.ntmps59
      go_upto_region 1 with fail
      rw [← hV]
      try rw [hsB]
      clear hV hsB
      go_wp2_with fail
      refine HH.out.mono ?_
      rintro _ w1 ⟨rfl, b1⟩
      have HO1 := hide (ownsRow_later HO.out b1)
      have HB1 := hide (HVB.out.trans (b1.mono HVB.out.size))
      clear b1 HH
      go_wp2
      go_ret
      exact ⟨p, c, rfl, HO1.out, Only.fresh HB1.out _⟩
    | true =>
      have hp : passC 8 fn ar ky vl = [⟨0, k', v'⟩] := by unfold passC; rw [if_pos (by decide), hhb, hkv]; rfl
      rw [hp]
      clear hp hhb hkv hk hv ha
      go_enter Tryz.func59, Tryz.ntmps59
      go_upto_region 1 with fail
      rw [← hV]
      try rw [hsB]
      clear hV hsB
      go_wp2_with fail
      refine HH.out.mono ?_
      rintro _ w1 ⟨rfl, b1⟩
      have HO1 := hide (ownsRow_later HO.out b1)
      have HB1 := hide (HVB.out.trans (b1.mono HVB.out.size))
      have HBS1 : Hid (base ≤ w1.heap.size) := hide (Nat.le_trans HBS.out b1.size)
      have y0 := cell_later b1 z0
      have y1 := cell_later b1 z1
      have y2 := cell_later b1 z2
      have y3 := cell_later b1 z3
      have y4 := cell_later b1 z4
      have y5 := cell_later b1 r0
      have y6 := cell_later b1 r1
      clear b1 HH z0 z1 z2 z3 z4 r0 r1
      go_wp2_with fail
      refine (HV.out w1).mono ?_
      rintro _ w2 ⟨rfl, b2⟩
      have HB2 := hide (HB1.out.trans (b2.mono HB1.out.size))
      have ab := alloc_below w2 (.cells #[.int .i64 0, .int .i64 k', .int .i64 v'] 103 (0, 0))
      have HRW := hide (ownsRow_later (ownsRow_later HO1.out b2) ab)
      have HSG : Hid (Seg (w2.alloc (.cells #[.int .i64 0, .int .i64 k', .int .i64 v'] 103 (0, 0))) 3 (.slice (some ⟨w2.heap.size, 0, none⟩) 1 1) 1 [.int .i64 0, .int .i64 k', .int .i64 v']) := hide (Seg.news (heap_alloc_new w2 _) (by simp [Value.oneCell']) rfl (Nat.le_refl _) (by decide))
      have HBB : Hid (base ≤ (w2.alloc (.cells #[.int .i64 0, .int .i64 k', .int .i64 v'] 103 (0, 0))).heap.size) := hide (Nat.le_trans HBS1.out (Nat.le_trans b2.size ab.size))
      clear b2 ab HV y0 y1 y2 y3 y4 y5 y6
      go_wp2_with (at_builtin; refine append_cells _ rfl (.tmp 18) (.tmp 23) 92 rfl base 103 i0 (.agg #[.int .i64 0, .int .i64 0, .int .i64 0]) 3 24 Tryz.underlying92 hI0 hz0 hz1 hz2 rfl (by decide) (.slice p m c) m _ rfl HRW.out (.slice (some ⟨w2.heap.size, 0, none⟩) 1 1) 1 _ rfl HSG.out HK1.out HK2.out HBB.out ?_)
      intro p6 c6 w6 o6 g6
      have HN : Hid (Only (fun i => (Value.slice p m c).ownBlock = some i) W w6) := hide (((Only.fresh HB2.out _).trans (Only.alloc _ _ _)).trans (Only.of_grown g6 (fun k e => e)))
      have HO6 : Hid (w6.ownsRow base 103 3 (.slice p6 (m + 1) c6) (m + 1) ((xs ++ [(⟨0, k', v'⟩ : PU)]).flatMap PU.cells)) := by
        refine hide ?_
        rw [List.flatMap_append]
        exact o6
      clear o6 g6
      go_wp2
      go_ret
      exact ⟨p6, c6, rfl, HO6.out, HN.out⟩
  have e8 := ne_eq h8
  have hpk : passKinds kd = false := by unfold passKinds; rw [e1, e2, e3, e4, e8]; rfl
  by_cases h7 : kd = 7
  · subst h7
    obtain ⟨rr, hrr⟩ : ∃ rr, restC ky ar = rr := ⟨_, rfl⟩
    have hp : passC 7 fn ar ky vl = [⟨rr, ky, vl⟩] := by unfold passC; rw [hpk, if_neg (by simp), if_pos rfl, hrr]
    rw [hp]
    have HRR := hide (rest_any (W := V.drew) hk ha)
    rw [hrr] at HRR
    have ab : Below V.heap.size V (V.alloc (.cells #[.int .i64 rr, .int .i64 ky, .int .i64 vl] 103 (0, 0))).drew := (alloc_below V (.cells #[.int .i64 rr, .int .i64 ky, .int .i64 vl] 103 (0, 0))).drew
    have HRW := hide (ownsRow_later HO.out ab)
    have HSG : Hid (Seg (V.alloc (.cells #[.int .i64 rr, .int .i64 ky, .int .i64 vl] 103 (0, 0))).drew 3 (.slice (some ⟨V.heap.size, 0, none⟩) 1 1) 1 [.int .i64 rr, .int .i64 ky, .int .i64 vl]) := hide (Seg.news (heap_alloc_new V (.cells #[.int .i64 rr, .int .i64 ky, .int .i64 vl] 103 (0, 0))) (by simp [Value.oneCell']) rfl (Nat.le_refl _) (by decide))
    have HBB : Hid (base ≤ (V.alloc (.cells #[.int .i64 rr, .int .i64 ky, .int .i64 vl] 103 (0, 0))).drew.heap.size) := hide (Nat.le_trans HBS.out ab.size)
    have hlt : ∀ i, (Value.slice p m c).ownBlock = some i → i < sB := fun i hi => by rw [← hsB]; exact (own_block_lt HOW0.out hi).1
    have HLT := hide hlt
    have n0 := World.new_ne V _ z3
    have n1 := World.new_ne V _ r0
    have n2 := World.new_ne V _ r1
    have y0 := cell_later ab z3
    have y1 := cell_later ab r0
    have y2 := cell_later ab r1
    have HAB := hide ab
    clear hp hpk hrr hk hv ha hlt ab
    go_enter Tryz.func59, Tryz.ntmps59
    go_upto_region 1 with fail
    rw [← hV]
    try rw [hsB]
    clear hV hsB
    go_upto_region 10 with fail
    go_region_held3 (fun w' => w'.cell? ⟨sB, 3, none⟩ = some (.int .i64 ar) ∧ w'.cell? ⟨sB + 1, 0, none⟩ = some (.int .i64 ky) ∧ w'.cell? ⟨sB + 1, 1, none⟩ = some (.int .i64 vl)) (go_keep)
      (first
        | (go_at_call 76; refine HRR.out.mono ?_; rintro _ _ ⟨rfl, rfl⟩)
        | (refine step_append_cells rfl (.tmp 27) (.tmp 35) 92 rfl base 103 i0 (.agg #[.int .i64 0, .int .i64 0, .int .i64 0]) 3 24 Tryz.underlying92 hI0 hz0 hz1 hz2 rfl (by decide) (.slice p m c) m _ rfl HRW.out (.slice (some ⟨V.heap.size, 0, none⟩) 1 1) 1 [.int .i64 rr, .int .i64 ky, .int .i64 vl] rfl HSG.out HK1.out HK2.out HBB.out ?_; intro p6 c6 w6 o6 g6; have hg := Only.of_grown g6 (F := fun i => (Value.slice p m c).ownBlock = some i) (fun k e => e); have x0 := hg.cell y0 (fun e => by have := HLT.out _ e; simp only at this; omega); have x1 := hg.cell y1 (fun e => by have := HLT.out _ e; simp only at this; omega); have x2 := hg.cell y2 (fun e => by have := HLT.out _ e; simp only at this; omega)))
    have HN : Hid (Only (fun i => (Value.slice p m c).ownBlock = some i) W w6) := hide (((Only.fresh HVB.out _).trans (Only.fresh HAB.out _)).trans hg)
    have HO6 : Hid (w6.ownsRow base 103 3 (.slice p6 (m + 1) c6) (m + 1) ((xs ++ [(⟨rr, ky, vl⟩ : PU)]).flatMap PU.cells)) := by
      refine hide ?_
      rw [List.flatMap_append]
      exact o6
    clear o6 g6 hg
    go_wp2
    go_ret
    exact ⟨p6, c6, rfl, HO6.out, HN.out⟩
  have e7 := ne_eq h7
  have hp : passC kd fn ar ky vl = [] := by unfold passC; rw [hpk, if_neg (by simp), if_neg h7]
  rw [hp, List.append_nil]
  clear hp hpk h1 h2 h3 h4 h8 h7 hk hv ha
  go_enter Tryz.func59, Tryz.ntmps59
  go_upto_region 1 with fail
  rw [← hV]
  try rw [hsB]
  clear hV hsB
  go_wp2
  go_ret
  exact ⟨p, c, rfl, HO.out, Only.fresh HVB.out _⟩
end Go.Proofs.YtifldnpccgbnkaaGreat.Op
