/-
  A transaction as the laws make it: txn. The conditions: that the values lie there; lengths.
-/
import Derived.Test.YtboofnkajjnmeaaSkz
import Derived.Test.YtboofnkajjnmeaaSkq
namespace Go.Proofs.Ytboofnkajjnmeaa
open Go.RowKit Go.Maps Go.Shelf

def recV (x : Int) : RC := ⟨0, x⟩
structure TxI (W : World) (tB rB : Nat) (ep id bg v : Int) (g : Nat) (p : Option Addr) (c : Nat) (rs : List RC) (w : World) : Prop where
  box : w.heap[tB]? = some (.cells #[.int .i64 ep, .int .i64 id, .int .i64 bg, .slice p rs.length c, .slice (some ⟨g, 0, none⟩) 1 1] 34 (0, 0))
  res : w.heap[rB]? = some (.cells #[.int .i64 0, .int .i64 0, .int .i64 0, .slice none 0 0, .slice none 0 0] 34 (0, 0))
  out : w.ownsRow W.heap.size 49 2 (.slice p rs.length c) rs.length (rs.flatMap RC.cells)
  vec : w.ownsRow W.heap.size 2 1 (.slice (some ⟨g, 0, none⟩) 1 1) 1 [.int .i64 v]
  ne : tB ≠ rB ∧ W.heap.size ≤ tB ∧ W.heap.size ≤ rB
  below : Below W.heap.size W w
theorem TxI.later {W : World} {tB rB : Nat} {ep id bg v : Int} {g : Nat} {p : Option Addr} {c : Nat} {rs : List RC} {w w' : World} (h : TxI W tB rB ep id bg v g p c rs w) (hb : Below w.heap.size w w') : TxI W tB rB ep id bg v g p c rs w' :=
  ⟨below_box hb h.box, below_box hb h.res, ownsRow_later h.out hb, ownsRow_later h.vec hb, h.ne, h.below.trans (hb.mono h.below.size)⟩
theorem own_ty {w : World} {t t2 : TypeId} {B k n : Nat} {v : Value} {xs : List Value} (h : w.ownsRow B t k v n xs) (ht : t ≠ t2) : ∀ i, v.ownBlock = some i → ∀ cur, w.heap[i]? ≠ some (.cells cur t2 (0, 0)) := fun i hi cur e => by
  obtain ⟨_, c1, e1⟩ := own_block_lt h hi
  rw [e] at e1
  simp at e1
  exact ht e1.2.symm
theorem TxI.app {W : World} {tB rB : Nat} {ep id bg v : Int} {g : Nat} {p : Option Addr} {c : Nat} {rs : List RC} {w w' : World} (h : TxI W tB rB ep id bg v g p c rs w) {r : RC} {p6 : Option Addr} {c6 : Nat} (o6 : w'.ownsRow W.heap.size 49 2 (.slice p6 (rs.length + 1) c6) (rs.length + 1) (rs.flatMap RC.cells ++ r.cells)) (g6 : w.grownBy w' (Value.slice p rs.length c).ownBlock) :
    w'.heap[tB]? = some (.cells #[.int .i64 ep, .int .i64 id, .int .i64 bg, .slice p rs.length c, .slice (some ⟨g, 0, none⟩) 1 1] 34 (0, 0)) ∧ TxI W tB rB ep id bg v g p6 c6 (rs ++ [r]) (w'.setCell ⟨tB, 3, none⟩ (.slice p6 (rs.length + 1) c6)) := by
  have ho : Only (fun i => (Value.slice p rs.length c).ownBlock = some i) w w' := Only.of_grown g6 (fun k e => e)
  have hnb : ∀ {b : Nat} {cs : Array Value}, w.heap[b]? = some (.cells cs 34 (0, 0)) → ¬ (Value.slice p rs.length c).ownBlock = some b := fun hb e => own_ty h.out (t2 := 34) (by decide) _ e _ hb
  have hb1 := ho.obj h.box (hnb h.box)
  have hb2 := ho.obj h.res (hnb h.res)
  have hs : Only (· = tB) w' (w'.setCell ⟨tB, 3, none⟩ (.slice p6 (rs.length + 1) c6)) := Only.set (F := (· = tB)) w' tB 3 _ rfl
  have e1 : [r].flatMap RC.cells = r.cells := by simp
  refine ⟨hb1, ?_, hs.obj hb2 (fun e => h.ne.1 (by have e' : rB = tB := e; exact e'.symm)), ?_, own_type (own_types h.vec ho (own_ty h.out (by decide))) hs hb1 (by decide), h.ne, ?_⟩
  · rw [heap_set_sameL hb1 3 (.slice p6 (rs.length + 1) c6), List.length_append]
    simp
  · rw [List.flatMap_append, List.length_append, e1]
    exact own_type o6 hs hb1 (by decide)
  · have hoo : Only (fun i => (Value.slice p rs.length c).ownBlock = some i ∨ i = tB) w (w'.setCell ⟨tB, 3, none⟩ (.slice p6 (rs.length + 1) c6)) := (ho.mono (fun _ _ e => .inl e)).trans (Only.set w' tB 3 _ (.inr rfl))
    refine h.below.trans (hoo.below h.below.size (fun i e => ?_))
    rcases e with e | e
    · exact own_block_base h.out e
    · have := h.ne
      omega
theorem TxI.start {W X : World} {ep id bg v : Int} (hX : X = ((W.alloc (.cells #[.int .i64 0, .int .i64 0, .int .i64 0, .slice none 0 0, .slice none 0 0] 34 (0, 0))).alloc (.cells #[.int .i64 v] 2 (0, 0))).alloc (.cells #[.int .i64 ep, .int .i64 id, .int .i64 bg, .slice none 0 0, .slice (some ⟨W.heap.size + 1, 0, none⟩) 1 1] 34 (0, 0))) : TxI W (W.heap.size + 1 + 1) W.heap.size ep id bg v (W.heap.size + 1) none 0 [] X := by
  obtain ⟨U, hU⟩ : ∃ U, U = W.alloc (.cells #[.int .i64 0, .int .i64 0, .int .i64 0, .slice none 0 0, .slice none 0 0] 34 (0, 0)) := ⟨_, rfl⟩
  have b1 : Below W.heap.size W U := by rw [hU]; exact alloc_below _ _
  have h1 : U.heap[W.heap.size]? = some (.cells #[.int .i64 0, .int .i64 0, .int .i64 0, .slice none 0 0, .slice none 0 0] 34 (0, 0)) := by rw [hU]; exact heap_alloc_new W _
  have s1 : U.heap.size = W.heap.size + 1 := by rw [hU]; simp
  rw [← hU] at hX
  obtain ⟨V, hV⟩ : ∃ V, V = U.alloc (.cells #[.int .i64 v] 2 (0, 0)) := ⟨_, rfl⟩
  have b2 : Below U.heap.size U V := by rw [hV]; exact alloc_below _ _
  have h2 : V.heap[W.heap.size + 1]? = some (.cells #[.int .i64 v] 2 (0, 0)) := by rw [hV, ← s1]; exact heap_alloc_new U _
  have s2 : V.heap.size = W.heap.size + 1 + 1 := by rw [hV]; simp [s1]
  rw [← hV] at hX
  have b3 : Below V.heap.size V X := by rw [hX]; exact alloc_below _ _
  have h3 : X.heap[W.heap.size + 1 + 1]? = some (.cells #[.int .i64 ep, .int .i64 id, .int .i64 bg, .slice none 0 0, .slice (some ⟨W.heap.size + 1, 0, none⟩) 1 1] 34 (0, 0)) := by rw [hX, ← s2]; exact heap_alloc_new V _
  refine ⟨h3, below_box b3 (below_box b2 h1), World.ownsRow_nil _ _ _ _, ⟨by simp, .inr ⟨W.heap.size + 1, 1, _, rfl, by omega, below_box b3 h2, Nat.le_refl _, by unfold maxLen; omega, by simp, by simp⟩⟩, ⟨by omega, by omega, by omega⟩, b1.trans ((b2.trans (b3.mono b2.size)).mono b1.size)⟩
set_option maxRecDepth 100000 in
set_option maxHeartbeats 1000000 in
theorem txn_any {W : World} {ep id bg v : Int} {p : Option Addr} {n c : Nat} {xs : List Int} (h : NRow W p c xs) (hn : xs.length = n) (hb : n ≤ 1048576) :
    Calls Try.prog 31 #[.int .i64 ep, .int .i64 id, .int .i64 bg, .int .i64 v, .slice p n c] W (CloT W ep id bg (xs.map recV) [v] n 1) := by
  obtain ⟨i0, hI0, hz0, hz1, hz2⟩ := info_parts Try.infoRec
  have i1 : xs.length ≤ c := h.le
  have i2 := h.top
  rw [hn] at i1
  have HR := hide h
  have HN := hide hn
  clear h hn
  go_enter Try.func31, Try.ntmps31
  go_wp2_with fail
  obtain ⟨X, hX⟩ : ∃ X, X = ((W.alloc (.cells #[.int .i64 0, .int .i64 0, .int .i64 0, .slice none 0 0, .slice none 0 0] 34 (0, 0))).alloc (.cells #[.int .i64 v] 2 (0, 0))).alloc (.cells #[.int .i64 ep, .int .i64 id, .int .i64 bg, .slice none 0 0, .slice (some ⟨W.heap.size + 1, 0, none⟩) 1 1] 34 (0, 0)) := ⟨_, rfl⟩
  rw [← hX]
  have HI0 := hide (TxI.start hX)
  obtain ⟨tB, htB⟩ : ∃ tB, tB = W.heap.size + 1 + 1 := ⟨_, rfl⟩
  obtain ⟨gB, hgB⟩ : ∃ gB, gB = W.heap.size + 1 := ⟨_, rfl⟩
  obtain ⟨rB, hrB⟩ : ∃ rB, rB = W.heap.size := ⟨_, rfl⟩
  have HI1 : Hid (TxI W tB rB ep id bg v gB none 0 [] X) := hide (by rw [htB, hgB, hrB]; exact HI0.out)
  rw [← htB, ← hgB, ← hrB]
  clear hX HI0 htB hgB hrB
  go_loopw [22] (fun i wr => ∃ (j : Nat) (p1 : Option Addr) (c1 : Nat) (rs : List RC), j ≤ n ∧ i = .int .i64 (j : Int) ∧ Hid (rs = (xs.take j).map recV) ∧ Hid (TxI W tB rB ep id bg v gB p1 c1 rs wr)) (fun i _ => n - (intOf i).toNat)
  case atStart => exact ⟨0, none, 0, [], Nat.zero_le _, rfl, hide (by simp), HI1⟩
  case round =>
    obtain ⟨j, p1, c1, rs, hj, rfl, HRS, HI⟩ := hrel
    rename World => wr
    by_cases hlt : j < n
    · have hl1 : j < xs.length := by rw [HN.out]; exact hlt
      obtain ⟨x, hx⟩ : ∃ x, xs[j]! = x := ⟨_, rfl⟩
      obtain ⟨g1, o1, rfl, a0⟩ := NRow.at (NRow.later HR.out HI.out.below) hl1 hx
      have y3 : wr.cell? ⟨tB, 3, none⟩ = some (.slice p1 rs.length c1) := cellB HI.out.box rfl
      have HRL : Hid (rs.length = j) := hide (by rw [HRS.out]; simp; omega)
      have HST : Hid (rs ++ [recV x] = (xs.take (j + 1)).map recV) := hide (by
        rw [HRS.out, List.take_succ_eq_append_getElem hl1, List.map_append, ← hx, getElem!_pos xs j hl1]
        rfl)
      have b9 := alloc_below wr (.cells #[.int .i64 0, .int .i64 x] 49 (0, 0))
      have HIY := hide (HI.out.later b9)
      have HSG : Hid (Seg (wr.alloc (.cells #[.int .i64 0, .int .i64 x] 49 (0, 0))) 2 (.slice (some ⟨wr.heap.size, 0, none⟩) 1 1) 1 [.int .i64 0, .int .i64 x]) := hide (Seg.news (heap_alloc_new wr _) (by simp [Value.oneCell']) rfl (Nat.le_refl _) (by decide))
      clear hx b9
      go_wp2_with (at_builtin; refine append_cells _ rfl (.tmp 27) (.tmp 30) 31 rfl W.heap.size 49 i0 (.agg #[.int .i64 0, .int .i64 0]) 2 16 Try.underlying31 hI0 hz0 hz1 hz2 rfl (by decide) (.slice p1 rs.length c1) rs.length _ rfl HIY.out.out (.slice (some ⟨wr.heap.size, 0, none⟩) 1 1) 1 _ rfl HSG.out (by have := HRL.out; unfold maxLen; omega) (by have := HRL.out; omega) HIY.out.below.size ?_)
      intro p6 c6 w6 o6 g6
      have hap := HIY.out.app (r := recV x) o6 g6
      have z3 := frB hap.1 (i := 3)
      have q3 := cellB hap.1 (i := 3) rfl
      have HFI := hide hap.2
      clear hap o6 g6 y3 a0
      go_wp2
      exact ⟨⟨j + 1, _, _, _, hlt, by first | rfl | go_num, HST, HFI⟩, by simp [intOf]; omega⟩
    · obtain rfl : j = n := by omega
      have HRL : Hid (rs.length = j ∧ rs = xs.map recV) := hide (by
        have h9 := HRS.out
        rw [List.take_of_length_le (by rw [HN.out]; exact Nat.le_refl _)] at h9
        exact ⟨by rw [h9]; simpa using HN.out, h9⟩)
      have y0 := cellB HI.out.box (i := 0) rfl
      have y1 := cellB HI.out.box (i := 1) rfl
      have y2 := cellB HI.out.box (i := 2) rfl
      have y3 := cellB HI.out.box (i := 3) rfl
      have y4 := cellB HI.out.box (i := 4) rfl
      have z0 := frB HI.out.res (i := 0)
      have z1 := frB HI.out.res (i := 1)
      have z2 := frB HI.out.res (i := 2)
      have z3 := frB HI.out.res (i := 3)
      have z4 := frB HI.out.res (i := 4)
      have x0 := cellB HI.out.res (i := 0) rfl
      have x1 := cellB HI.out.res (i := 1) rfl
      have x2 := cellB HI.out.res (i := 2) rfl
      have x3 := cellB HI.out.res (i := 3) rfl
      have x4 := cellB HI.out.res (i := 4) rfl
      go_wp2
      have hE := five_own HI.out.res (.int .i64 ep) (.int .i64 id) (.int .i64 bg) (.slice p1 rs.length c1) (.slice (some ⟨gB, 0, none⟩) 1 1)
      have hO := only_five wr rB (.int .i64 ep) (.int .i64 id) (.int .i64 bg) (.slice p1 rs.length c1) (.slice (some ⟨gB, 0, none⟩) 1 1)
      refine bodyPost_ret (results_cell_one rfl _ _ rB 34 _ _ _ rfl hE Try.underlying34 rfl (by kernel_rfl)) rfl ?_
      have hr1 := own_type HI.out.out hO HI.out.res (by decide)
      have hr2 := own_type HI.out.vec hO HI.out.res (by decide)
      have hr3 := HI.out.below.trans (hO.below HI.out.below.size (fun i e => by have e' : i = rB := e; have := HI.out.ne; omega))
      generalize (((((wr.setCell ⟨rB, 0, none⟩ (.int .i64 ep)).setCell ⟨rB, 1, none⟩ (.int .i64 id)).setCell ⟨rB, 2, none⟩ (.int .i64 bg)).setCell ⟨rB, 3, none⟩ (.slice p1 rs.length c1)).setCell ⟨rB, 4, none⟩ (.slice (some ⟨gB, 0, none⟩) 1 1)) = wf at hr1 hr2 hr3 ⊢
      rw [HRL.out.1, HRL.out.2] at hr1
      rw [HRL.out.1]
      exact ⟨p1, c1, some ⟨gB, 0, none⟩, 1, rfl, hr1, hr2, hr3⟩
end Go.Proofs.Ytboofnkajjnmeaa

/-
  live of the laws: it is true. No conditions.
-/
namespace Go.Proofs.Ytboofnkajjnmeaa
open Go.RowKit Go.Maps Go.Shelf

theorem nums_new (w : World) (l : List Int) (hl : l.length ≤ 4) : NRow (w.alloc (.cells (l.map (Value.int .i64)).toArray 2 (0, 0))) (some ⟨w.heap.size, 0, none⟩) l.length l :=
  NRow.of_own rfl (base := w.heap.size) (e := 2) ⟨by rw [int_flat]; simp, .inr ⟨w.heap.size, l.length, _, rfl, Nat.le_refl _, heap_alloc_new w _, Nat.le_refl _, by unfold maxLen; omega, by simp, by rw [int_flat, Nat.mul_one, List.take_of_length_le (by simp)]⟩⟩
theorem clo_ok {B : Nat} {W w : World} {ep id bg : Int} {rs : List RC} {vs : List Int} {rn vn : Nat} {k : PK} {p q : Option Addr} {c d : Nat} (hk : PS B W k) (h1 : w.ownsRow W.heap.size 49 2 (.slice p rn c) rn (rs.flatMap RC.cells)) (h2 : w.ownsRow W.heap.size 2 1 (.slice q vn d) vn (vs.flatMap intCells)) (hr : rs.length = rn) (hv : vs.length = vn) :
    (⟨⟨ep, id, bg, rs, vs⟩, p, c, q, d⟩ : TP).ok w ∧ ∀ i, (⟨⟨ep, id, bg, rs, vs⟩, p, c, q, d⟩ : TP).blk i → ¬ k.blk i := by
  subst hr hv
  refine ⟨⟨RRow.of_own rfl h1, NRow.of_own rfl h2⟩, fun i hi hb => ?_⟩
  have h9 := (hk.lt hb).2
  rcases hi with ⟨a, ha, _, e⟩ | ⟨a, ha, _, e⟩
  · simp only at ha
    have := own_block_base h1 (b := a.block) (by rw [ha]; rfl)
    omega
  · simp only at ha
    have := own_block_base h2 (b := a.block) (by rw [ha]; rfl)
    omega
def lt1 : TX := ⟨1, 1, 0, [⟨0, 7⟩, ⟨0, 8⟩], [2]⟩
def lt2 : TX := ⟨2, 5, 1, [⟨0, 8⟩, ⟨0, 9⟩], [3]⟩
def lt3 : TX := ⟨2, 6, 1, [⟨0, 9⟩], [4]⟩
def ls1 : SK := ⟨1, [], [0], [], [lt1]⟩
def ls2 : SK := ⟨1, [⟨0, 7⟩, ⟨0, 8⟩], [2], [1], []⟩
def ls3 : SK := ⟨2, [⟨0, 7⟩, ⟨0, 8⟩], [2], [], [lt2]⟩
def ls4 : SK := ⟨2, [⟨0, 7⟩, ⟨0, 8⟩, ⟨0, 9⟩], [3], [5], []⟩
theorem lv1 : preE 1 (newS 1) lt1 = 0 ∧ preS 1 (newS 1) lt1 = ls1 := by decide
theorem lv2 : comE ls1 1 1 = 0 ∧ comS ls1 1 1 = ls2 := by decide
theorem lv3 : preE 1 ls2 lt2 = 0 ∧ preS 1 ls2 lt2 = ls3 := by decide
theorem lv4 : comE ls3 2 5 = 0 ∧ comS ls3 2 5 = ls4 := by decide
theorem lv5 : comE ls4 1 2 = 150 ∧ comS ls4 1 2 = ls4 := by decide
theorem lv6 : preE 1 ls4 lt3 = 152 ∧ preS 1 ls4 lt3 = ls4 := by decide
set_option maxRecDepth 100000 in
set_option maxHeartbeats 4000000 in
theorem live_any {W : World} : Calls Try.prog 8 #[] W fun e w' => e = .returned (.bool true) ∧ Below W.heap.size W w' := by
  go_enter Try.func8, Try.ntmps8
  go_wp2_with fail
  refine (new_ok (W := W) (n := 1) (Nat.le_refl _) (by omega)).mono ?_
  rintro _ w0 ⟨k0, rfl, hp, hs, hb⟩
  have HP0 := hide hp
  have HS0 : Hid (k0.sk = newS 1) := hide hs
  have HB0 := hide hb
  clear hp hs hb
  go_wp2_with fail
  have hnr : NRow (w0.alloc (.cells #[.int .i64 7, .int .i64 8] 2 (0, 0))) (some ⟨w0.heap.size, 0, none⟩) 2 [7, 8] := nums_new w0 [7, 8] (by decide)
  have ba := alloc_below w0 (.cells #[.int .i64 7, .int .i64 8] 2 (0, 0))
  refine (txn_any hnr rfl (by decide)).mono ?_
  rintro _ w1 ⟨p1, c1, q1, d1, rfl, o1, o2, b2⟩
  have HP1' := hide ((HP0.out.later ba).later b2)
  have HX1 := hide (clo_ok (ep := 1) (id := 1) (bg := 0) (HP0.out.later ba) o1 o2 rfl rfl)
  have HB1 : Hid (Below W.heap.size W w1) := hide (HB0.out.trans ((ba.trans (b2.mono ba.size)).mono HB0.out.size))
  clear hnr ba o1 o2 b2
  go_wp2_with fail
  have HP1Q := HP1'
  refine (pre_any (x := ⟨lt1, p1, c1, q1, d1⟩) HP1Q.out HX1.out.1 HX1.out.2 (by have h9 : k0.done = _ := congrArg SK.done HS0.out; rw [h9]; decide)).mono ?_
  rintro _ w2 ⟨rfl, hput⟩
  obtain ⟨k1, r1, r2, r3, r4, r5⟩ := hput
  have HE := (show preE k0.vec.length k0.sk lt1 = _ ∧ preS k0.vec.length k0.sk lt1 = _ by have h9 : k0.vec = _ := congrArg SK.vec HS0.out; rw [h9, HS0.out]; exact lv1)
  rw [HE.1]
  rw [HE.2] at r2
  have HP2 := hide r1
  have HS1 : Hid (k1.sk = ls1) := hide r2
  have HB2 : Hid (Below W.heap.size W w2) := hide (HB1.out.trans (r4.below HB1.out.size (fun i hi => (HP1Q.out.lt hi).1)))
  rw [← r3]
  clear r1 r2 r3 r4 r5 HE
  go_wp2_with fail
  have HP2Q := HP2
  refine (commit_any HP2Q.out (by have h9 : k1.done = _ := congrArg SK.done HS1.out; rw [h9]; decide)).mono ?_
  rintro _ w3 ⟨rfl, hput⟩
  obtain ⟨k2, r1, r2, r3, r4, r5⟩ := hput
  have HE := (show comE k1.sk 1 1 = _ ∧ comS k1.sk 1 1 = _ by rw [HS1.out]; exact lv2)
  rw [HE.1]
  rw [HE.2] at r2
  have HP3 := hide r1
  have HS2 : Hid (k2.sk = ls2) := hide r2
  have HB3 : Hid (Below W.heap.size W w3) := hide (HB2.out.trans (r4.below HB2.out.size (fun i hi => (HP2Q.out.lt hi).1)))
  rw [← r3]
  clear r1 r2 r3 r4 r5 HE
  go_wp2_with fail
  have h9 : k2.out = _ := congrArg SK.out HS2.out
  refine (len_any HP3.out).mono ?_
  rintro _ _ ⟨rfl, rfl⟩
  rename World => w3
  rw [h9]
  clear h9
  go_wp2_with fail
  have hnr : NRow (w3.alloc (.cells #[.int .i64 8, .int .i64 9] 2 (0, 0))) (some ⟨w3.heap.size, 0, none⟩) 2 [8, 9] := nums_new w3 [8, 9] (by decide)
  have ba := alloc_below w3 (.cells #[.int .i64 8, .int .i64 9] 2 (0, 0))
  refine (txn_any hnr rfl (by decide)).mono ?_
  rintro _ w4 ⟨p4, c4, q4, d4, rfl, o1, o2, b2⟩
  have HP4' := hide ((HP3.out.later ba).later b2)
  have HX4 := hide (clo_ok (ep := 2) (id := 5) (bg := 1) (HP3.out.later ba) o1 o2 rfl rfl)
  have HB4 : Hid (Below W.heap.size W w4) := hide (HB3.out.trans ((ba.trans (b2.mono ba.size)).mono HB3.out.size))
  clear hnr ba o1 o2 b2
  go_wp2_with fail
  have HP4Q := HP4'
  refine (pre_any (x := ⟨lt2, p4, c4, q4, d4⟩) HP4Q.out HX4.out.1 HX4.out.2 (by have h9 : k2.done = _ := congrArg SK.done HS2.out; rw [h9]; decide)).mono ?_
  rintro _ w5 ⟨rfl, hput⟩
  obtain ⟨k3, r1, r2, r3, r4, r5⟩ := hput
  have HE := (show preE k2.vec.length k2.sk lt2 = _ ∧ preS k2.vec.length k2.sk lt2 = _ by have h9 : k2.vec = _ := congrArg SK.vec HS2.out; rw [h9, HS2.out]; exact lv3)
  rw [HE.1]
  rw [HE.2] at r2
  have HP5 := hide r1
  have HS3 : Hid (k3.sk = ls3) := hide r2
  have HB5 : Hid (Below W.heap.size W w5) := hide (HB4.out.trans (r4.below HB4.out.size (fun i hi => (HP4Q.out.lt hi).1)))
  rw [← r3]
  clear r1 r2 r3 r4 r5 HE
  go_wp2_with fail
  have h9 : k3.reg = _ := congrArg SK.reg HS3.out
  refine (register_any HP5.out).mono ?_
  rintro _ _ ⟨rfl, rfl⟩
  rename World => w5
  rw [h9]
  clear h9
  go_wp2_with fail
  have HP5Q := HP5
  refine (commit_any HP5Q.out (by have h9 : k3.done = _ := congrArg SK.done HS3.out; rw [h9]; decide)).mono ?_
  rintro _ w6 ⟨rfl, hput⟩
  obtain ⟨k4, r1, r2, r3, r4, r5⟩ := hput
  have HE := (show comE k3.sk 2 5 = _ ∧ comS k3.sk 2 5 = _ by rw [HS3.out]; exact lv4)
  rw [HE.1]
  rw [HE.2] at r2
  have HP6 := hide r1
  have HS4 : Hid (k4.sk = ls4) := hide r2
  have HB6 : Hid (Below W.heap.size W w6) := hide (HB5.out.trans (r4.below HB5.out.size (fun i hi => (HP5Q.out.lt hi).1)))
  rw [← r3]
  clear r1 r2 r3 r4 r5 HE
  go_wp2_with fail
  have h9 : k4.out = _ := congrArg SK.out HS4.out
  refine (len_any HP6.out).mono ?_
  rintro _ _ ⟨rfl, rfl⟩
  rename World => w6
  rw [h9]
  clear h9
  go_wp2_with fail
  have HP6Q := HP6
  refine (commit_any HP6Q.out (by have h9 : k4.done = _ := congrArg SK.done HS4.out; rw [h9]; decide)).mono ?_
  rintro _ w7 ⟨rfl, hput⟩
  obtain ⟨k5, r1, r2, r3, r4, r5⟩ := hput
  have HE := (show comE k4.sk 1 2 = _ ∧ comS k4.sk 1 2 = _ by rw [HS4.out]; exact lv5)
  rw [HE.1]
  rw [HE.2] at r2
  have HP7 := hide r1
  have HS5 : Hid (k5.sk = ls4) := hide r2
  have HB7 : Hid (Below W.heap.size W w7) := hide (HB6.out.trans (r4.below HB6.out.size (fun i hi => (HP6Q.out.lt hi).1)))
  rw [← r3]
  clear r1 r2 r3 r4 r5 HE
  go_wp2_with fail
  have hnr : NRow (w7.alloc (.cells #[.int .i64 9] 2 (0, 0))) (some ⟨w7.heap.size, 0, none⟩) 1 [9] := nums_new w7 [9] (by decide)
  have ba := alloc_below w7 (.cells #[.int .i64 9] 2 (0, 0))
  refine (txn_any hnr rfl (by decide)).mono ?_
  rintro _ w8 ⟨p8, c8, q8, d8, rfl, o1, o2, b2⟩
  have HP8' := hide ((HP7.out.later ba).later b2)
  have HX8 := hide (clo_ok (ep := 2) (id := 6) (bg := 1) (HP7.out.later ba) o1 o2 rfl rfl)
  have HB8 : Hid (Below W.heap.size W w8) := hide (HB7.out.trans ((ba.trans (b2.mono ba.size)).mono HB7.out.size))
  clear hnr ba o1 o2 b2
  go_wp2_with fail
  have HP8Q := HP8'
  refine (pre_any (x := ⟨lt3, p8, c8, q8, d8⟩) HP8Q.out HX8.out.1 HX8.out.2 (by have h9 : k5.done = _ := congrArg SK.done HS5.out; rw [h9]; decide)).mono ?_
  rintro _ w9 ⟨rfl, hput⟩
  obtain ⟨k6, r1, r2, r3, r4, r5⟩ := hput
  have HE := (show preE k5.vec.length k5.sk lt3 = _ ∧ preS k5.vec.length k5.sk lt3 = _ by have h9 : k5.vec = _ := congrArg SK.vec HS5.out; rw [h9, HS5.out]; exact lv6)
  rw [HE.1]
  rw [HE.2] at r2
  have HP9 := hide r1
  have HS6 : Hid (k6.sk = ls4) := hide r2
  have HB9 : Hid (Below W.heap.size W w9) := hide (HB8.out.trans (r4.below HB8.out.size (fun i hi => (HP8Q.out.lt hi).1)))
  rw [← r3]
  clear r1 r2 r3 r4 r5 HE
  go_wp2
  go_ret
  exact ⟨rfl, HB9.out⟩
end Go.Proofs.Ytboofnkajjnmeaa
