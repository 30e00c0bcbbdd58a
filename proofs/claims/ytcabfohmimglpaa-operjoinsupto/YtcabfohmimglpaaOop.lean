/-
  open of a ledger of nothing. The conditions: lengths.
-/
import Derived.Test.YtcabfohmimglpaaOkm
import Derived.Deep.Cut
import Derived.Deep.CutBlock
import Derived.Deep.CutRange
import Derived.Deep.RegionHeld3
import Derived.Laws.OwnMore
namespace Go.Proofs.Ytcabfohmimglpaa
open Go.RowKit

set_option maxRecDepth 100000 in
theorem kclone_nil {W : World} : Calls Try.prog 22 #[.slice none 0 0] W fun e w' => e = .returned (.slice none 0 0) ∧ w' = W := by
  have q : ∀ (w : World) (a : Option Addr) (n c : Nat), (binOp .eql 27 (.slice a n c) (.slice none 0 0)).run Try.prog w = .ok (.bool a.isNone) w := fun w a n c => Lib.run_eql_slice_nil w _ _ a n c 0 0 Try.underlying27
  go_enter Try.func22, Try.ntmps22
  go_wp2
  go_ret
  exact ⟨rfl, rfl⟩
theorem peaks_nil {W : World} : Calls Try.prog 23 #[.int .i64 0] W fun e w' => ∃ g c H K, e = .returned (.slice (some ⟨g, 0, none⟩) (2 * H) c) ∧ H = 2 ^ K ∧ 0 ≤ H ∧ H ≤ 2097152 ∧ w'.ownsRow W.heap.size 2 1 (.slice (some ⟨g, 0, none⟩) (2 * H) c) (2 * H) ((List.replicate (2 * H) lowN).map (Value.int .i64)) ∧ Below W.heap.size W w' := newPeaks_any (m := 0) (by omega)

theorem Try.infoBool : (Try.prog.info? 4).map (fun i => (i.zero, i.size, i.bytes)) = some (some (.bool false), 1, 1) := by kernel_rfl
theorem Try.infoIntO : (Try.prog.info? 3).map (fun i => (i.zero, i.size, i.bytes)) = some (some (.int .i64 0), 1, 8) := by kernel_rfl
theorem made_none (cs : Array Value) : madeCells cs 0 = #[] := by
  apply Array.ext
  · simp [size_madeCells]
  · intro i h1 h2
    simp at h2
theorem make_bool (w : World) : (Instr.makeSlice 61 (.int .i64 0) (.int .i64 0)).run Try.prog w = .ok (.slice (some ⟨w.heap.size, 0, none⟩) 0 0) (w.alloc (.cells #[] 4 (0, 0))) := by
  obtain ⟨i0, hI0, hz0, hz1, hz2⟩ := info_parts Try.infoBool
  have h := run_make (P := Try.prog) w 61 4 i0 (.bool false) Try.underlying61 hI0 hz0 .i64 .i64 0 0 (by omega) (by omega) (by omega) (by omega)
  rw [h]
  simp [made_none]
theorem make_int (w : World) : (Instr.makeSlice 62 (.int .i64 0) (.int .i64 0)).run Try.prog w = .ok (.slice (some ⟨w.heap.size, 0, none⟩) 0 0) (w.alloc (.cells #[] 3 (0, 0))) := by
  obtain ⟨i0, hI0, hz0, hz1, hz2⟩ := info_parts Try.infoIntO
  have h := run_make (P := Try.prog) w 62 3 i0 (.int .i64 0) Try.underlying62 hI0 hz0 .i64 .i64 0 0 (by omega) (by omega) (by omega) (by omega)
  rw [h]
  simp [made_none]

structure OpenR (W wd : World) (lb gb gi gl cl H K ge m : Nat) (es : List EN) (ks : List Int) : Prop where
  box : wd.heap[lb]? = some (.cells #[.slice none 0 0, .slice (some ⟨gb, 0, none⟩) 0 0, .slice (some ⟨gi, 0, none⟩) 0 0, .slice (some ⟨gl, 0, none⟩) (2 * H) cl, .slice (some ⟨ge, 0, none⟩) m m, .slice none 0 0] 69 (0, 0))
  gone : wd.ownsRow W.heap.size 4 1 (.slice (some ⟨gb, 0, none⟩) 0 0) 0 []
  tw : wd.ownsRow W.heap.size 3 1 (.slice (some ⟨gi, 0, none⟩) 0 0) 0 []
  left : wd.ownsRow W.heap.size 2 1 (.slice (some ⟨gl, 0, none⟩) (2 * H) cl) (2 * H) ((List.replicate (2 * H) lowN).map (Value.int .i64))
  ent : wd.ownsRow W.heap.size 74 5 (.slice (some ⟨ge, 0, none⟩) m m) m (es.flatMap EN.cells)
  pow : H = 2 ^ K
  few : H ≤ 2097152
  ents : es = ks.map (fun k => (⟨0, k, 0, 0, 0⟩ : EN))
  len : es.length = m
  lbW : W.heap.size ≤ lb
  below : Below W.heap.size W wd
theorem made_own {W X : World} {e : TypeId} {s : Nat} (h : Below W.heap.size W X) (hs : X.heap.size = s) : (X.alloc (.cells #[] e (0, 0))).ownsRow W.heap.size e 1 (.slice (some ⟨s, 0, none⟩) 0 0) 0 [] ∧ Below X.heap.size X (X.alloc (.cells #[] e (0, 0))) := by
  rw [← hs]
  exact ⟨World.ownsRow_made X #[] 0 h.size (Nat.zero_le _) rfl, alloc_below _ _⟩
theorem open_meet {W X : World} {gb gi gl cl H K ge m : Nat} {es : List EN} {ks : List Int} {s : Nat} (hb : Below W.heap.size W X) (hs : X.heap.size = s) (h1 : X.ownsRow W.heap.size 4 1 (.slice (some ⟨gb, 0, none⟩) 0 0) 0 []) (h2 : X.ownsRow W.heap.size 3 1 (.slice (some ⟨gi, 0, none⟩) 0 0) 0 []) (h3 : X.ownsRow W.heap.size 2 1 (.slice (some ⟨gl, 0, none⟩) (2 * H) cl) (2 * H) ((List.replicate (2 * H) lowN).map (Value.int .i64))) (h4 : X.ownsRow W.heap.size 74 5 (.slice (some ⟨ge, 0, none⟩) m m) m (es.flatMap EN.cells)) (h5 : H = 2 ^ K) (h6 : H ≤ 2097152) (h7 : es = ks.map (fun k => (⟨0, k, 0, 0, 0⟩ : EN))) (h8 : es.length = m) :
    OpenR W (X.alloc (.cells #[.slice none 0 0, .slice (some ⟨gb, 0, none⟩) 0 0, .slice (some ⟨gi, 0, none⟩) 0 0, .slice (some ⟨gl, 0, none⟩) (2 * H) cl, .slice (some ⟨ge, 0, none⟩) m m, .slice none 0 0] 69 (0, 0))) s gb gi gl cl H K ge m es ks := by
  rw [← hs]
  have ab := alloc_below X (.cells #[.slice none 0 0, .slice (some ⟨gb, 0, none⟩) 0 0, .slice (some ⟨gi, 0, none⟩) 0 0, .slice (some ⟨gl, 0, none⟩) (2 * H) cl, .slice (some ⟨ge, 0, none⟩) m m, .slice none 0 0] 69 (0, 0))
  exact ⟨heap_alloc_new X _, ownsRow_later h1 ab, ownsRow_later h2 ab, ownsRow_later h3 ab, ownsRow_later h4 ab, h5, h6, h7, h8, hb.size, hb.trans (ab.mono hb.size)⟩

theorem compact_len (d : Array Int) : ∀ m, (Lib.compactUpTo d m).length ≤ m
  | 0 => Nat.le_refl _
  | m + 1 => by
    have := compact_len d m
    rw [Lib.compactUpTo_succ, List.length_append]
    split
    · simp; omega
    · simp; omega
theorem keysC_len (ks : List Int) : (keysC ks).length ≤ ks.length := by
  have := compact_len (sortC ks).toArray (sortC ks).length
  rw [← (sortC_perm ks).length_eq]
  exact this
theorem heap_set_sameO {W : World} {b : Nat} {cs : Array Value} {t : TypeId} (h : W.heap[b]? = some (.cells cs t (0, 0))) (o : Nat) (v : Value) : (W.setCell ⟨b, o, none⟩ v).heap[b]? = some (.cells (cs.setIfInBounds o v) t (0, 0)) := by
  simp only [World.setCell]
  rw [Array.getElem?_modify, if_pos rfl, h]
  rfl
theorem lb_keeps {X : World} {base lb i n k : Nat} {cs : Array Value} {e : TypeId} {v x : Value} {ys : List Value} (hb : X.heap[lb]? = some (.cells cs 69 (0, 0))) (h : X.ownsRow base e k v n ys) (hne : e ≠ 69) : (X.setCell ⟨lb, i, none⟩ x).ownsRow base e k v n ys :=
  ownsRow_only h (Only.set (F := (· = lb)) X lb i x rfl) (fun b hbb e => by
    have e' : b = lb := e
    subst e'
    obtain ⟨_, c1, q1⟩ := own_block_lt h hbb
    rw [hb] at q1
    simp at q1
    exact hne q1.2.symm)
theorem open_end {W w2 w3 : World} {lb gb gi gl cl H K ge m gf cf H2 K2 : Nat} {es : List EN} {ks : List Int} (h : OpenR W w2 lb gb gi gl cl H K ge m es ks) (B3 : Below w2.heap.size w2 w3) (Q1 : H2 = 2 ^ K2) (OF : w3.ownsRow w2.heap.size 2 1 (.slice (some ⟨gf, 0, none⟩) (2 * H2) cf) (2 * H2) ((List.replicate (2 * H2) lowN).map (Value.int .i64))) :
    LRep (w3.setCell ⟨lb, 5, none⟩ (.slice (some ⟨gf, 0, none⟩) (2 * H2) cf)) W.heap.size lb ⟨none, 0, some ⟨gb, 0, none⟩, 0, some ⟨gi, 0, none⟩, 0, gl, cl, some ⟨ge, 0, none⟩, m, gf, cf⟩ ⟨[], [], [], List.replicate (2 * H) lowN, H, K, es, List.replicate (2 * H2) lowN, H2, K2⟩ ∧ Below W.heap.size W (w3.setCell ⟨lb, 5, none⟩ (.slice (some ⟨gf, 0, none⟩) (2 * H2) cf)) := by
  have hbx := below_box B3 h.box
  have hl := h.len
  subst hl
  refine ⟨⟨?_, World.ownsRow_nil _ _ _ _, lb_keeps hbx (ownsRow_later h.gone B3) (by decide), lb_keeps hbx (ownsRow_later h.tw B3) (by decide), lb_keeps hbx (ownsRow_later h.left B3) (by decide), lb_keeps hbx (ownsRow_later h.ent B3) (by decide), lb_keeps hbx (ownsRow_base OF h.below.size) (by decide), ?_, Peak.low H K h.pow, Peak.low H2 K2 Q1⟩, ?_⟩
  · rw [heap_set_sameO hbx]
    rfl
  · have h1 := (own_block_lt h.left (b := gl) rfl).1
    have h2 := (OF.lt gf rfl).1
    show gl ≠ gf
    omega
  · exact (h.below.trans (B3.mono h.below.size)).setCell (p := ⟨lb, 5, none⟩) h.lbW _

set_option maxRecDepth 100000 in
set_option maxHeartbeats 8000000 in
theorem open_nil {W : World} {p : Option Addr} {c n : Nat} {rs : List RC} (h : RRow W p c rs) (hn : rs.length = n) (hb : n ≤ 1048576) :
    Calls Try.prog 11 #[.slice none 0 0, .slice p n c] W fun e w' => ∃ lb A L, e = .returned (.pointer (some ⟨lb, 0, none⟩)) ∧ LRep w' W.heap.size lb A L ∧ L.old = [] ∧ L.es = (keysC (rs.map RC.key)).map (fun k => (⟨0, k, 0, 0, 0⟩ : EN)) ∧ L.fr = List.replicate (2 * L.fh) lowN ∧ L.es.length ≤ L.fh ∧ L.lh ≤ 2097152 ∧ L.fh ≤ 2097152 ∧ (∃ ge, A.pe = some ⟨ge, 0, none⟩) ∧ Below W.heap.size W w' := by
  have HE : Hid (∀ X, Below W.heap.size W X → Calls Try.prog 24 #[.slice p n c, .int .i64 0] X fun e w' => ∃ g m es, e = .returned (.slice (some ⟨g, 0, none⟩) m m) ∧ es = (keysC (rs.map RC.key)).map (fun k => (⟨0, k, 0, 0, 0⟩ : EN)) ∧ es.length = m ∧ w'.ownsRow X.heap.size 74 5 (.slice (some ⟨g, 0, none⟩) m m) m (es.flatMap EN.cells) ∧ Below X.heap.size X w') := hide (fun X hX => entriesOf_any (h.below hX) hn hb)
  have HNN : Hid (rs.length ≤ 1048576) := hide (by omega)
  clear h hn hb
  have mb := make_bool
  have mi := make_int
  go_enter Try.func11, Try.ntmps11
  go_upto_region 1 with fail
  go_cut [5] from 9 to 25 (fun s5 wd => ∃ (lb gb gi gl cl H K ge m : Nat) (es : List EN), s5 = .pointer (some ⟨lb, 0, none⟩) ∧ Hid (OpenR W wd lb gb gi gl cl H K ge m es (keysC (rs.map RC.key))))
  case first =>
    refine wp_region_held_drew (S := fun _ => True) (by kernel_rfl) trivial (fun hHeld => ?_)
    refine wpAnyH_take (i := 0) (oi := _) (v := ?_) rfl (by kernel_rfl) (by kernel_rfl) (by kernel_rfl) (fun _ _ _ h => h) (Or.inl ⟨by rfl, ?_⟩) (by assumption) ?_
    rotate_left
    · intro w hSw
      (try dsimp only at hSw)
      go_simp
      all_goals with_reducible rfl
    simp only [Act.put, List.setIfInBounds_toArray] --TAKE 1
    refine wpAnyH_take (i := 2) (oi := _) (v := ?_) rfl (by kernel_rfl) (by kernel_rfl) (by kernel_rfl) (fun _ _ _ h => h) (Or.inl ⟨by rfl, ?_⟩) (by assumption) ?_
    rotate_left
    · intro w hSw
      (try dsimp only at hSw)
      go_simp
      all_goals with_reducible rfl
    simp only [Act.put] --TAKE 2
    refine wpAnyH_take (i := 3) (oi := _) (v := ?_) rfl (by kernel_rfl) (by kernel_rfl) (by kernel_rfl) (fun _ _ _ h => h) (Or.inl ⟨by rfl, ?_⟩) (by assumption) ?_
    rotate_left
    · intro w hSw
      (try dsimp only at hSw)
      go_simp
      all_goals with_reducible rfl
    simp only [Act.put] --TAKE 3
    refine wpAnyH_take (i := 5) (oi := _) (v := ?_) rfl (by kernel_rfl) (by kernel_rfl) (by kernel_rfl) (fun _ _ _ h => h) (Or.inl ⟨by rfl, ?_⟩) (by assumption) ?_
    rotate_left
    · intro w hSw
      (try dsimp only at hSw)
      go_simp
      all_goals with_reducible rfl
    simp only [Act.put] --TAKE 4
    refine wpAnyH_take (i := 6) (oi := _) (v := ?_) rfl (by kernel_rfl) (by kernel_rfl) (by kernel_rfl) (fun _ _ _ h => h) (Or.inl ⟨by rfl, ?_⟩) (by assumption) ?_
    rotate_left
    · intro w hSw
      (try dsimp only at hSw)
      go_simp
      all_goals with_reducible rfl
    simp only [Act.put] --TAKE 5
    refine wpAnyH_take (i := 8) (oi := _) (v := ?_) rfl (by kernel_rfl) (by kernel_rfl) (by kernel_rfl) (fun _ _ _ h => h) (Or.inl ⟨by rfl, ?_⟩) (by assumption) ?_
    rotate_left
    · intro w hSw
      (try dsimp only at hSw)
      go_simp
      all_goals with_reducible rfl
    simp only [Act.put] --TAKE 6
    refine wpAnyH_take (i := 9) (oi := _) (v := ?_) rfl (by kernel_rfl) (by kernel_rfl) (by kernel_rfl) (fun _ _ _ h => h) (Or.inl ⟨by rfl, ?_⟩) (by assumption) ?_
    rotate_left
    · intro w hSw
      (try dsimp only at hSw)
      go_simp
      all_goals with_reducible rfl
    simp only [Act.put] --TAKE 7
    refine wpAnyH_take (i := 11) (oi := _) (v := ?_) rfl (by kernel_rfl) (by kernel_rfl) (by kernel_rfl) (fun _ _ _ h => h) (Or.inl ⟨by rfl, ?_⟩) (by assumption) ?_
    rotate_left
    · intro w hSw
      (try dsimp only at hSw)
      go_simp
      all_goals with_reducible rfl
    simp only [Act.put] --TAKE 8
    refine wpAnyH_take (i := 12) (oi := _) (v := ?_) rfl (by kernel_rfl) (by kernel_rfl) (by kernel_rfl) (fun _ _ _ h => h) (Or.inl ⟨by rfl, ?_⟩) (by assumption) ?_
    rotate_left
    · intro w hSw
      (try dsimp only at hSw)
      go_simp
      all_goals with_reducible rfl
    simp only [Act.put] --TAKE 9
    refine wpAnyH_take (i := 13) (oi := _) (v := ?_) rfl (by kernel_rfl) (by kernel_rfl) (by kernel_rfl) (fun _ _ _ h => h) (Or.inl ⟨by rfl, ?_⟩) (by assumption) ?_
    rotate_left
    · intro w hSw
      (try dsimp only at hSw)
      go_simp
      all_goals with_reducible rfl
    simp only [Act.put] --TAKE 10
    have BW : Below W.heap.size W W.drew := (Below.refl _ W).drew
    refine wpAnyH_ready (rs := [1, 4, 7]) (by kernel_rfl) (by simp) ?_
    refine AllReadyH.cons (o := _) rfl (fun K hK => ?_) ?_
    · go_simp
      refine kclone_nil.mono ?_
      rintro _ _ ⟨rfl, rfl⟩
      go_wp2_with fail
      refine hK.out _ _ trivial (fun hHeld => ?_)
      clear hK
      refine wpAnyH_ready (rs := [4, 7, 10]) (by kernel_rfl) (by simp) ?_
      refine AllReadyH.cons (o := _) rfl (fun K hK => ?_) ?_
      · go_simp
        have N9 := made_own (e := 4) (s := W.heap.size) BW (by first | rfl | simp)
        have B9 := N9.2
        have OB := N9.1
        replace BW := BW.trans (B9.mono BW.size)
        clear B9 N9
        refine hK.out _ _ trivial (fun hHeld => ?_)
        clear hK
        refine wpAnyH_ready (rs := [7, 10]) (by kernel_rfl) (by simp) ?_
        refine AllReadyH.cons (o := _) rfl (fun K hK => ?_) ?_
        · go_simp
          have N9 := made_own (e := 3) (s := W.heap.size + 1) BW (by first | rfl | simp)
          have B9 := N9.2
          replace OB := ownsRow_later OB B9
          have OI := N9.1
          replace BW := BW.trans (B9.mono BW.size)
          clear B9 N9
          refine hK.out _ _ trivial (fun hHeld => ?_)
          clear hK
          refine wpAnyH_ready (rs := [10]) (by kernel_rfl) (by simp) ?_
          refine AllReadyH.cons (o := _) rfl (fun K hK => ?_) AllReadyH.nil
          go_simp
          refine peaks_nil.mono ?_
          rintro _ wp ⟨gl, cl, H, KK, rfl, P1, _, P3, OL, B9⟩
          replace OL := ownsRow_base OL BW.size
          replace P1 := hide P1
          replace OB := ownsRow_later OB B9
          replace OI := ownsRow_later OI B9
          replace BW := BW.trans (B9.mono BW.size)
          clear B9
          go_wp2_with fail
          refine hK.out _ _ trivial (fun hHeld => ?_)
          clear hK
          refine wpAnyH_ready (rs := [14]) (by kernel_rfl) (by simp) ?_
          refine AllReadyH.cons (o := _) rfl (fun K hK => ?_) AllReadyH.nil
          go_simp
          refine (HE.out _ BW).mono ?_
          rintro _ we ⟨ge, m, es, rfl, E1, E2, OE, B9⟩
          replace OE := ownsRow_base OE BW.size
          replace E1 := hide E1
          replace E2 := hide E2
          replace OB := ownsRow_later OB B9
          replace OI := ownsRow_later OI B9
          replace OL := ownsRow_later OL B9
          replace BW := BW.trans (B9.mono BW.size)
          clear B9
          go_wp2_with fail
          refine hK.out _ _ trivial (fun hHeld => ?_)
          clear hK
          refine wpAnyH_take (i := 15) (oi := _) (v := ?_) rfl (by kernel_rfl) (by kernel_rfl) (by kernel_rfl) (fun _ _ _ h => h) (Or.inl ⟨by rfl, ?_⟩) (by assumption) ?_
          rotate_left
          · intro w hSw
            (try dsimp only at hSw)
            go_simp
            all_goals with_reducible rfl
          simp only [Act.put, List.setIfInBounds_toArray] --TAKE 11
          refine wpAnyH_ready (rs := [16]) (by kernel_rfl) (by simp) ?_
          refine AllReadyH.cons (o := _) rfl (fun K hK => ?_) AllReadyH.nil
          go_simp
          refine hK.out _ _ trivial (fun hHeld => ?_)
          clear hK
          refine wpAnyH_ready (rs := [17]) (by kernel_rfl) (by simp) ?_
          refine AllReadyH.cons (o := _) rfl (fun K hK => ?_) AllReadyH.nil
          go_simp
          refine hK.out _ _ trivial (fun hHeld => ?_)
          clear hK
          refine wpAnyH_done (by kernel_rfl) ?_ _
          have HM := hide (open_meet (s := we.heap.size) BW (by first | rfl | simp) OB OI OL OE P1.out P3 E1.out E2.out)
          clear BW OB OI OL OE
          go_wp2_with fail
          go_meet
          case rel => exact ⟨_, _, _, _, _, _, _, _, _, _, rfl, HM⟩
        refine AllReadyH.cons (o := _) rfl (fun K hK => ?_) AllReadyH.nil
        go_simp
        refine peaks_nil.mono ?_
        rintro _ wp ⟨gl, cl, H, KK, rfl, P1, _, P3, OL, B9⟩
        replace OL := ownsRow_base OL BW.size
        replace P1 := hide P1
        replace OB := ownsRow_later OB B9
        replace BW := BW.trans (B9.mono BW.size)
        clear B9
        go_wp2_with fail
        refine hK.out _ _ trivial (fun hHeld => ?_)
        clear hK
        refine wpAnyH_ready (rs := [7, 14]) (by kernel_rfl) (by simp) ?_
        refine AllReadyH.cons (o := _) rfl (fun K hK => ?_) ?_
        · go_simp
          have N9 := made_own (e := 3) (s := wp.heap.size) BW (by first | rfl | simp)
          have B9 := N9.2
          replace OB := ownsRow_later OB B9
          replace OL := ownsRow_later OL B9
          have OI := N9.1
          replace BW := BW.trans (B9.mono BW.size)
          clear B9 N9
          refine hK.out _ _ trivial (fun hHeld => ?_)
          clear hK
          refine wpAnyH_ready (rs := [14]) (by kernel_rfl) (by simp) ?_
          refine AllReadyH.cons (o := _) rfl (fun K hK => ?_) AllReadyH.nil
          go_simp
          refine (HE.out _ BW).mono ?_
          rintro _ we ⟨ge, m, es, rfl, E1, E2, OE, B9⟩
          replace OE := ownsRow_base OE BW.size
          replace E1 := hide E1
          replace E2 := hide E2
          replace OB := ownsRow_later OB B9
          replace OL := ownsRow_later OL B9
          replace OI := ownsRow_later OI B9
          replace BW := BW.trans (B9.mono BW.size)
          clear B9
          go_wp2_with fail
          refine hK.out _ _ trivial (fun hHeld => ?_)
          clear hK
          refine wpAnyH_take (i := 15) (oi := _) (v := ?_) rfl (by kernel_rfl) (by kernel_rfl) (by kernel_rfl) (fun _ _ _ h => h) (Or.inl ⟨by rfl, ?_⟩) (by assumption) ?_
          rotate_left
          · intro w hSw
            (try dsimp only at hSw)
            go_simp
            all_goals with_reducible rfl
          simp only [Act.put, List.setIfInBounds_toArray] --TAKE 12
          refine wpAnyH_ready (rs := [16]) (by kernel_rfl) (by simp) ?_
          refine AllReadyH.cons (o := _) rfl (fun K hK => ?_) AllReadyH.nil
          go_simp
          refine hK.out _ _ trivial (fun hHeld => ?_)
          clear hK
          refine wpAnyH_ready (rs := [17]) (by kernel_rfl) (by simp) ?_
          refine AllReadyH.cons (o := _) rfl (fun K hK => ?_) AllReadyH.nil
          go_simp
          refine hK.out _ _ trivial (fun hHeld => ?_)
          clear hK
          refine wpAnyH_done (by kernel_rfl) ?_ _
          have HM := hide (open_meet (s := we.heap.size) BW (by first | rfl | simp) OB OI OL OE P1.out P3 E1.out E2.out)
          clear BW OB OI OL OE
          go_wp2_with fail
          go_meet
          case rel => exact ⟨_, _, _, _, _, _, _, _, _, _, rfl, HM⟩
        refine AllReadyH.cons (o := _) rfl (fun K hK => ?_) AllReadyH.nil
        go_simp
        refine (HE.out _ BW).mono ?_
        rintro _ we ⟨ge, m, es, rfl, E1, E2, OE, B9⟩
        replace OE := ownsRow_base OE BW.size
        replace E1 := hide E1
        replace E2 := hide E2
        replace OB := ownsRow_later OB B9
        replace OL := ownsRow_later OL B9
        replace BW := BW.trans (B9.mono BW.size)
        clear B9
        go_wp2_with fail
        refine hK.out _ _ trivial (fun hHeld => ?_)
        clear hK
        refine wpAnyH_ready (rs := [7]) (by kernel_rfl) (by simp) ?_
        refine AllReadyH.cons (o := _) rfl (fun K hK => ?_) AllReadyH.nil
        go_simp
        have N9 := made_own (e := 3) (s := we.heap.size) BW (by first | rfl | simp)
        have B9 := N9.2
        replace OB := ownsRow_later OB B9
        replace OL := ownsRow_later OL B9
        replace OE := ownsRow_later OE B9
        have OI := N9.1
        replace BW := BW.trans (B9.mono BW.size)
        clear B9 N9
        refine hK.out _ _ trivial (fun hHeld => ?_)
        clear hK
        refine wpAnyH_take (i := 15) (oi := _) (v := ?_) rfl (by kernel_rfl) (by kernel_rfl) (by kernel_rfl) (fun _ _ _ h => h) (Or.inl ⟨by rfl, ?_⟩) (by assumption) ?_
        rotate_left
        · intro w hSw
          (try dsimp only at hSw)
          go_simp
          all_goals with_reducible rfl
        simp only [Act.put, List.setIfInBounds_toArray] --TAKE 13
        refine wpAnyH_ready (rs := [16]) (by kernel_rfl) (by simp) ?_
        refine AllReadyH.cons (o := _) rfl (fun K hK => ?_) AllReadyH.nil
        go_simp
        refine hK.out _ _ trivial (fun hHeld => ?_)
        clear hK
        refine wpAnyH_ready (rs := [17]) (by kernel_rfl) (by simp) ?_
        refine AllReadyH.cons (o := _) rfl (fun K hK => ?_) AllReadyH.nil
        go_simp
        refine hK.out _ _ trivial (fun hHeld => ?_)
        clear hK
        refine wpAnyH_done (by kernel_rfl) ?_ _
        have HM := hide (open_meet (s := we.heap.size + 1) BW (by first | rfl | simp) OB OI OL OE P1.out P3 E1.out E2.out)
        clear BW OB OI OL OE
        go_wp2_with fail
        go_meet
        case rel => exact ⟨_, _, _, _, _, _, _, _, _, _, rfl, HM⟩
      refine AllReadyH.cons (o := _) rfl (fun K hK => ?_) ?_
      · go_simp
        have N9 := made_own (e := 3) (s := W.heap.size) BW (by first | rfl | simp)
        have B9 := N9.2
        have OI := N9.1
        replace BW := BW.trans (B9.mono BW.size)
        clear B9 N9
        refine hK.out _ _ trivial (fun hHeld => ?_)
        clear hK
        refine wpAnyH_ready (rs := [4, 10]) (by kernel_rfl) (by simp) ?_
        refine AllReadyH.cons (o := _) rfl (fun K hK => ?_) ?_
        · go_simp
          have N9 := made_own (e := 4) (s := W.heap.size + 1) BW (by first | rfl | simp)
          have B9 := N9.2
          replace OI := ownsRow_later OI B9
          have OB := N9.1
          replace BW := BW.trans (B9.mono BW.size)
          clear B9 N9
          refine hK.out _ _ trivial (fun hHeld => ?_)
          clear hK
          refine wpAnyH_ready (rs := [10]) (by kernel_rfl) (by simp) ?_
          refine AllReadyH.cons (o := _) rfl (fun K hK => ?_) AllReadyH.nil
          go_simp
          refine peaks_nil.mono ?_
          rintro _ wp ⟨gl, cl, H, KK, rfl, P1, _, P3, OL, B9⟩
          replace OL := ownsRow_base OL BW.size
          replace P1 := hide P1
          replace OI := ownsRow_later OI B9
          replace OB := ownsRow_later OB B9
          replace BW := BW.trans (B9.mono BW.size)
          clear B9
          go_wp2_with fail
          refine hK.out _ _ trivial (fun hHeld => ?_)
          clear hK
          refine wpAnyH_ready (rs := [14]) (by kernel_rfl) (by simp) ?_
          refine AllReadyH.cons (o := _) rfl (fun K hK => ?_) AllReadyH.nil
          go_simp
          refine (HE.out _ BW).mono ?_
          rintro _ we ⟨ge, m, es, rfl, E1, E2, OE, B9⟩
          replace OE := ownsRow_base OE BW.size
          replace E1 := hide E1
          replace E2 := hide E2
          replace OI := ownsRow_later OI B9
          replace OB := ownsRow_later OB B9
          replace OL := ownsRow_later OL B9
          replace BW := BW.trans (B9.mono BW.size)
          clear B9
          go_wp2_with fail
          refine hK.out _ _ trivial (fun hHeld => ?_)
          clear hK
          refine wpAnyH_take (i := 15) (oi := _) (v := ?_) rfl (by kernel_rfl) (by kernel_rfl) (by kernel_rfl) (fun _ _ _ h => h) (Or.inl ⟨by rfl, ?_⟩) (by assumption) ?_
          rotate_left
          · intro w hSw
            (try dsimp only at hSw)
            go_simp
            all_goals with_reducible rfl
          simp only [Act.put, List.setIfInBounds_toArray] --TAKE 14
          refine wpAnyH_ready (rs := [16]) (by kernel_rfl) (by simp) ?_
          refine AllReadyH.cons (o := _) rfl (fun K hK => ?_) AllReadyH.nil
          go_simp
          refine hK.out _ _ trivial (fun hHeld => ?_)
          clear hK
          refine wpAnyH_ready (rs := [17]) (by kernel_rfl) (by simp) ?_
          refine AllReadyH.cons (o := _) rfl (fun K hK => ?_) AllReadyH.nil
          go_simp
          refine hK.out _ _ trivial (fun hHeld => ?_)
          clear hK
          refine wpAnyH_done (by kernel_rfl) ?_ _
          have HM := hide (open_meet (s := we.heap.size) BW (by first | rfl | simp) OB OI OL OE P1.out P3 E1.out E2.out)
          clear BW OB OI OL OE
          go_wp2_with fail
          go_meet
          case rel => exact ⟨_, _, _, _, _, _, _, _, _, _, rfl, HM⟩
        refine AllReadyH.cons (o := _) rfl (fun K hK => ?_) AllReadyH.nil
        go_simp
        refine peaks_nil.mono ?_
        rintro _ wp ⟨gl, cl, H, KK, rfl, P1, _, P3, OL, B9⟩
        replace OL := ownsRow_base OL BW.size
        replace P1 := hide P1
        replace OI := ownsRow_later OI B9
        replace BW := BW.trans (B9.mono BW.size)
        clear B9
        go_wp2_with fail
        refine hK.out _ _ trivial (fun hHeld => ?_)
        clear hK
        refine wpAnyH_ready (rs := [4, 14]) (by kernel_rfl) (by simp) ?_
        refine AllReadyH.cons (o := _) rfl (fun K hK => ?_) ?_
        · go_simp
          have N9 := made_own (e := 4) (s := wp.heap.size) BW (by first | rfl | simp)
          have B9 := N9.2
          replace OI := ownsRow_later OI B9
          replace OL := ownsRow_later OL B9
          have OB := N9.1
          replace BW := BW.trans (B9.mono BW.size)
          clear B9 N9
          refine hK.out _ _ trivial (fun hHeld => ?_)
          clear hK
          refine wpAnyH_ready (rs := [14]) (by kernel_rfl) (by simp) ?_
          refine AllReadyH.cons (o := _) rfl (fun K hK => ?_) AllReadyH.nil
          go_simp
          refine (HE.out _ BW).mono ?_
          rintro _ we ⟨ge, m, es, rfl, E1, E2, OE, B9⟩
          replace OE := ownsRow_base OE BW.size
          replace E1 := hide E1
          replace E2 := hide E2
          replace OI := ownsRow_later OI B9
          replace OL := ownsRow_later OL B9
          replace OB := ownsRow_later OB B9
          replace BW := BW.trans (B9.mono BW.size)
          clear B9
          go_wp2_with fail
          refine hK.out _ _ trivial (fun hHeld => ?_)
          clear hK
          refine wpAnyH_take (i := 15) (oi := _) (v := ?_) rfl (by kernel_rfl) (by kernel_rfl) (by kernel_rfl) (fun _ _ _ h => h) (Or.inl ⟨by rfl, ?_⟩) (by assumption) ?_
          rotate_left
          · intro w hSw
            (try dsimp only at hSw)
            go_simp
            all_goals with_reducible rfl
          simp only [Act.put, List.setIfInBounds_toArray] --TAKE 15
          refine wpAnyH_ready (rs := [16]) (by kernel_rfl) (by simp) ?_
          refine AllReadyH.cons (o := _) rfl (fun K hK => ?_) AllReadyH.nil
          go_simp
          refine hK.out _ _ trivial (fun hHeld => ?_)
          clear hK
          refine wpAnyH_ready (rs := [17]) (by kernel_rfl) (by simp) ?_
          refine AllReadyH.cons (o := _) rfl (fun K hK => ?_) AllReadyH.nil
          go_simp
          refine hK.out _ _ trivial (fun hHeld => ?_)
          clear hK
          refine wpAnyH_done (by kernel_rfl) ?_ _
          have HM := hide (open_meet (s := we.heap.size) BW (by first | rfl | simp) OB OI OL OE P1.out P3 E1.out E2.out)
          clear BW OB OI OL OE
          go_wp2_with fail
          go_meet
          case rel => exact ⟨_, _, _, _, _, _, _, _, _, _, rfl, HM⟩
        refine AllReadyH.cons (o := _) rfl (fun K hK => ?_) AllReadyH.nil
        go_simp
        refine (HE.out _ BW).mono ?_
        rintro _ we ⟨ge, m, es, rfl, E1, E2, OE, B9⟩
        replace OE := ownsRow_base OE BW.size
        replace E1 := hide E1
        replace E2 := hide E2
        replace OI := ownsRow_later OI B9
        replace OL := ownsRow_later OL B9
        replace BW := BW.trans (B9.mono BW.size)
        clear B9
        go_wp2_with fail
        refine hK.out _ _ trivial (fun hHeld => ?_)
        clear hK
        refine wpAnyH_ready (rs := [4]) (by kernel_rfl) (by simp) ?_
        refine AllReadyH.cons (o := _) rfl (fun K hK => ?_) AllReadyH.nil
        go_simp
        have N9 := made_own (e := 4) (s := we.heap.size) BW (by first | rfl | simp)
        have B9 := N9.2
        replace OI := ownsRow_later OI B9
        replace OL := ownsRow_later OL B9
        replace OE := ownsRow_later OE B9
        have OB := N9.1
        replace BW := BW.trans (B9.mono BW.size)
        clear B9 N9
        refine hK.out _ _ trivial (fun hHeld => ?_)
        clear hK
        refine wpAnyH_take (i := 15) (oi := _) (v := ?_) rfl (by kernel_rfl) (by kernel_rfl) (by kernel_rfl) (fun _ _ _ h => h) (Or.inl ⟨by rfl, ?_⟩) (by assumption) ?_
        rotate_left
        · intro w hSw
          (try dsimp only at hSw)
          go_simp
          all_goals with_reducible rfl
        simp only [Act.put, List.setIfInBounds_toArray] --TAKE 16
        refine wpAnyH_ready (rs := [16]) (by kernel_rfl) (by simp) ?_
        refine AllReadyH.cons (o := _) rfl (fun K hK => ?_) AllReadyH.nil
        go_simp
        refine hK.out _ _ trivial (fun hHeld => ?_)
        clear hK
        refine wpAnyH_ready (rs := [17]) (by kernel_rfl) (by simp) ?_
        refine AllReadyH.cons (o := _) rfl (fun K hK => ?_) AllReadyH.nil
        go_simp
        refine hK.out _ _ trivial (fun hHeld => ?_)
        clear hK
        refine wpAnyH_done (by kernel_rfl) ?_ _
        have HM := hide (open_meet (s := we.heap.size + 1) BW (by first | rfl | simp) OB OI OL OE P1.out P3 E1.out E2.out)
        clear BW OB OI OL OE
        go_wp2_with fail
        go_meet
        case rel => exact ⟨_, _, _, _, _, _, _, _, _, _, rfl, HM⟩
      refine AllReadyH.cons (o := _) rfl (fun K hK => ?_) AllReadyH.nil
      go_simp
      refine peaks_nil.mono ?_
      rintro _ wp ⟨gl, cl, H, KK, rfl, P1, _, P3, OL, B9⟩
      replace OL := ownsRow_base OL BW.size
      replace P1 := hide P1
      replace BW := BW.trans (B9.mono BW.size)
      clear B9
      go_wp2_with fail
      refine hK.out _ _ trivial (fun hHeld => ?_)
      clear hK
      refine wpAnyH_ready (rs := [4, 7, 14]) (by kernel_rfl) (by simp) ?_
      refine AllReadyH.cons (o := _) rfl (fun K hK => ?_) ?_
      · go_simp
        have N9 := made_own (e := 4) (s := wp.heap.size) BW (by first | rfl | simp)
        have B9 := N9.2
        replace OL := ownsRow_later OL B9
        have OB := N9.1
        replace BW := BW.trans (B9.mono BW.size)
        clear B9 N9
        refine hK.out _ _ trivial (fun hHeld => ?_)
        clear hK
        refine wpAnyH_ready (rs := [7, 14]) (by kernel_rfl) (by simp) ?_
        refine AllReadyH.cons (o := _) rfl (fun K hK => ?_) ?_
        · go_simp
          have N9 := made_own (e := 3) (s := wp.heap.size + 1) BW (by first | rfl | simp)
          have B9 := N9.2
          replace OL := ownsRow_later OL B9
          replace OB := ownsRow_later OB B9
          have OI := N9.1
          replace BW := BW.trans (B9.mono BW.size)
          clear B9 N9
          refine hK.out _ _ trivial (fun hHeld => ?_)
          clear hK
          refine wpAnyH_ready (rs := [14]) (by kernel_rfl) (by simp) ?_
          refine AllReadyH.cons (o := _) rfl (fun K hK => ?_) AllReadyH.nil
          go_simp
          refine (HE.out _ BW).mono ?_
          rintro _ we ⟨ge, m, es, rfl, E1, E2, OE, B9⟩
          replace OE := ownsRow_base OE BW.size
          replace E1 := hide E1
          replace E2 := hide E2
          replace OL := ownsRow_later OL B9
          replace OB := ownsRow_later OB B9
          replace OI := ownsRow_later OI B9
          replace BW := BW.trans (B9.mono BW.size)
          clear B9
          go_wp2_with fail
          refine hK.out _ _ trivial (fun hHeld => ?_)
          clear hK
          refine wpAnyH_take (i := 15) (oi := _) (v := ?_) rfl (by kernel_rfl) (by kernel_rfl) (by kernel_rfl) (fun _ _ _ h => h) (Or.inl ⟨by rfl, ?_⟩) (by assumption) ?_
          rotate_left
          · intro w hSw
            (try dsimp only at hSw)
            go_simp
            all_goals with_reducible rfl
          simp only [Act.put, List.setIfInBounds_toArray] --TAKE 17
          refine wpAnyH_ready (rs := [16]) (by kernel_rfl) (by simp) ?_
          refine AllReadyH.cons (o := _) rfl (fun K hK => ?_) AllReadyH.nil
          go_simp
          refine hK.out _ _ trivial (fun hHeld => ?_)
          clear hK
          refine wpAnyH_ready (rs := [17]) (by kernel_rfl) (by simp) ?_
          refine AllReadyH.cons (o := _) rfl (fun K hK => ?_) AllReadyH.nil
          go_simp
          refine hK.out _ _ trivial (fun hHeld => ?_)
          clear hK
          refine wpAnyH_done (by kernel_rfl) ?_ _
          have HM := hide (open_meet (s := we.heap.size) BW (by first | rfl | simp) OB OI OL OE P1.out P3 E1.out E2.out)
          clear BW OB OI OL OE
          go_wp2_with fail
          go_meet
          case rel => exact ⟨_, _, _, _, _, _, _, _, _, _, rfl, HM⟩
        refine AllReadyH.cons (o := _) rfl (fun K hK => ?_) AllReadyH.nil
        go_simp
        refine (HE.out _ BW).mono ?_
        rintro _ we ⟨ge, m, es, rfl, E1, E2, OE, B9⟩
        replace OE := ownsRow_base OE BW.size
        replace E1 := hide E1
        replace E2 := hide E2
        replace OL := ownsRow_later OL B9
        replace OB := ownsRow_later OB B9
        replace BW := BW.trans (B9.mono BW.size)
        clear B9
        go_wp2_with fail
        refine hK.out _ _ trivial (fun hHeld => ?_)
        clear hK
        refine wpAnyH_ready (rs := [7]) (by kernel_rfl) (by simp) ?_
        refine AllReadyH.cons (o := _) rfl (fun K hK => ?_) AllReadyH.nil
        go_simp
        have N9 := made_own (e := 3) (s := we.heap.size) BW (by first | rfl | simp)
        have B9 := N9.2
        replace OL := ownsRow_later OL B9
        replace OB := ownsRow_later OB B9
        replace OE := ownsRow_later OE B9
        have OI := N9.1
        replace BW := BW.trans (B9.mono BW.size)
        clear B9 N9
        refine hK.out _ _ trivial (fun hHeld => ?_)
        clear hK
        refine wpAnyH_take (i := 15) (oi := _) (v := ?_) rfl (by kernel_rfl) (by kernel_rfl) (by kernel_rfl) (fun _ _ _ h => h) (Or.inl ⟨by rfl, ?_⟩) (by assumption) ?_
        rotate_left
        · intro w hSw
          (try dsimp only at hSw)
          go_simp
          all_goals with_reducible rfl
        simp only [Act.put, List.setIfInBounds_toArray] --TAKE 18
        refine wpAnyH_ready (rs := [16]) (by kernel_rfl) (by simp) ?_
        refine AllReadyH.cons (o := _) rfl (fun K hK => ?_) AllReadyH.nil
        go_simp
        refine hK.out _ _ trivial (fun hHeld => ?_)
        clear hK
        refine wpAnyH_ready (rs := [17]) (by kernel_rfl) (by simp) ?_
        refine AllReadyH.cons (o := _) rfl (fun K hK => ?_) AllReadyH.nil
        go_simp
        refine hK.out _ _ trivial (fun hHeld => ?_)
        clear hK
        refine wpAnyH_done (by kernel_rfl) ?_ _
        have HM := hide (open_meet (s := we.heap.size + 1) BW (by first | rfl | simp) OB OI OL OE P1.out P3 E1.out E2.out)
        clear BW OB OI OL OE
        go_wp2_with fail
        go_meet
        case rel => exact ⟨_, _, _, _, _, _, _, _, _, _, rfl, HM⟩
      refine AllReadyH.cons (o := _) rfl (fun K hK => ?_) ?_
      · go_simp
        have N9 := made_own (e := 3) (s := wp.heap.size) BW (by first | rfl | simp)
        have B9 := N9.2
        replace OL := ownsRow_later OL B9
        have OI := N9.1
        replace BW := BW.trans (B9.mono BW.size)
        clear B9 N9
        refine hK.out _ _ trivial (fun hHeld => ?_)
        clear hK
        refine wpAnyH_ready (rs := [4, 14]) (by kernel_rfl) (by simp) ?_
        refine AllReadyH.cons (o := _) rfl (fun K hK => ?_) ?_
        · go_simp
          have N9 := made_own (e := 4) (s := wp.heap.size + 1) BW (by first | rfl | simp)
          have B9 := N9.2
          replace OL := ownsRow_later OL B9
          replace OI := ownsRow_later OI B9
          have OB := N9.1
          replace BW := BW.trans (B9.mono BW.size)
          clear B9 N9
          refine hK.out _ _ trivial (fun hHeld => ?_)
          clear hK
          refine wpAnyH_ready (rs := [14]) (by kernel_rfl) (by simp) ?_
          refine AllReadyH.cons (o := _) rfl (fun K hK => ?_) AllReadyH.nil
          go_simp
          refine (HE.out _ BW).mono ?_
          rintro _ we ⟨ge, m, es, rfl, E1, E2, OE, B9⟩
          replace OE := ownsRow_base OE BW.size
          replace E1 := hide E1
          replace E2 := hide E2
          replace OL := ownsRow_later OL B9
          replace OI := ownsRow_later OI B9
          replace OB := ownsRow_later OB B9
          replace BW := BW.trans (B9.mono BW.size)
          clear B9
          go_wp2_with fail
          refine hK.out _ _ trivial (fun hHeld => ?_)
          clear hK
          refine wpAnyH_take (i := 15) (oi := _) (v := ?_) rfl (by kernel_rfl) (by kernel_rfl) (by kernel_rfl) (fun _ _ _ h => h) (Or.inl ⟨by rfl, ?_⟩) (by assumption) ?_
          rotate_left
          · intro w hSw
            (try dsimp only at hSw)
            go_simp
            all_goals with_reducible rfl
          simp only [Act.put, List.setIfInBounds_toArray] --TAKE 19
          refine wpAnyH_ready (rs := [16]) (by kernel_rfl) (by simp) ?_
          refine AllReadyH.cons (o := _) rfl (fun K hK => ?_) AllReadyH.nil
          go_simp
          refine hK.out _ _ trivial (fun hHeld => ?_)
          clear hK
          refine wpAnyH_ready (rs := [17]) (by kernel_rfl) (by simp) ?_
          refine AllReadyH.cons (o := _) rfl (fun K hK => ?_) AllReadyH.nil
          go_simp
          refine hK.out _ _ trivial (fun hHeld => ?_)
          clear hK
          refine wpAnyH_done (by kernel_rfl) ?_ _
          have HM := hide (open_meet (s := we.heap.size) BW (by first | rfl | simp) OB OI OL OE P1.out P3 E1.out E2.out)
          clear BW OB OI OL OE
          go_wp2_with fail
          go_meet
          case rel => exact ⟨_, _, _, _, _, _, _, _, _, _, rfl, HM⟩
        refine AllReadyH.cons (o := _) rfl (fun K hK => ?_) AllReadyH.nil
        go_simp
        refine (HE.out _ BW).mono ?_
        rintro _ we ⟨ge, m, es, rfl, E1, E2, OE, B9⟩
        replace OE := ownsRow_base OE BW.size
        replace E1 := hide E1
        replace E2 := hide E2
        replace OL := ownsRow_later OL B9
        replace OI := ownsRow_later OI B9
        replace BW := BW.trans (B9.mono BW.size)
        clear B9
        go_wp2_with fail
        refine hK.out _ _ trivial (fun hHeld => ?_)
        clear hK
        refine wpAnyH_ready (rs := [4]) (by kernel_rfl) (by simp) ?_
        refine AllReadyH.cons (o := _) rfl (fun K hK => ?_) AllReadyH.nil
        go_simp
        have N9 := made_own (e := 4) (s := we.heap.size) BW (by first | rfl | simp)
        have B9 := N9.2
        replace OL := ownsRow_later OL B9
        replace OI := ownsRow_later OI B9
        replace OE := ownsRow_later OE B9
        have OB := N9.1
        replace BW := BW.trans (B9.mono BW.size)
        clear B9 N9
        refine hK.out _ _ trivial (fun hHeld => ?_)
        clear hK
        refine wpAnyH_take (i := 15) (oi := _) (v := ?_) rfl (by kernel_rfl) (by kernel_rfl) (by kernel_rfl) (fun _ _ _ h => h) (Or.inl ⟨by rfl, ?_⟩) (by assumption) ?_
        rotate_left
        · intro w hSw
          (try dsimp only at hSw)
          go_simp
          all_goals with_reducible rfl
        simp only [Act.put, List.setIfInBounds_toArray] --TAKE 20
        refine wpAnyH_ready (rs := [16]) (by kernel_rfl) (by simp) ?_
        refine AllReadyH.cons (o := _) rfl (fun K hK => ?_) AllReadyH.nil
        go_simp
        refine hK.out _ _ trivial (fun hHeld => ?_)
        clear hK
        refine wpAnyH_ready (rs := [17]) (by kernel_rfl) (by simp) ?_
        refine AllReadyH.cons (o := _) rfl (fun K hK => ?_) AllReadyH.nil
        go_simp
        refine hK.out _ _ trivial (fun hHeld => ?_)
        clear hK
        refine wpAnyH_done (by kernel_rfl) ?_ _
        have HM := hide (open_meet (s := we.heap.size + 1) BW (by first | rfl | simp) OB OI OL OE P1.out P3 E1.out E2.out)
        clear BW OB OI OL OE
        go_wp2_with fail
        go_meet
        case rel => exact ⟨_, _, _, _, _, _, _, _, _, _, rfl, HM⟩
      refine AllReadyH.cons (o := _) rfl (fun K hK => ?_) AllReadyH.nil
      go_simp
      refine (HE.out _ BW).mono ?_
      rintro _ we ⟨ge, m, es, rfl, E1, E2, OE, B9⟩
      replace OE := ownsRow_base OE BW.size
      replace E1 := hide E1
      replace E2 := hide E2
      replace OL := ownsRow_later OL B9
      replace BW := BW.trans (B9.mono BW.size)
      clear B9
      go_wp2_with fail
      refine hK.out _ _ trivial (fun hHeld => ?_)
      clear hK
      refine wpAnyH_ready (rs := [4, 7]) (by kernel_rfl) (by simp) ?_
      refine AllReadyH.cons (o := _) rfl (fun K hK => ?_) ?_
      · go_simp
        have N9 := made_own (e := 4) (s := we.heap.size) BW (by first | rfl | simp)
        have B9 := N9.2
        replace OL := ownsRow_later OL B9
        replace OE := ownsRow_later OE B9
        have OB := N9.1
        replace BW := BW.trans (B9.mono BW.size)
        clear B9 N9
        refine hK.out _ _ trivial (fun hHeld => ?_)
        clear hK
        refine wpAnyH_ready (rs := [7]) (by kernel_rfl) (by simp) ?_
        refine AllReadyH.cons (o := _) rfl (fun K hK => ?_) AllReadyH.nil
        go_simp
        have N9 := made_own (e := 3) (s := we.heap.size + 1) BW (by first | rfl | simp)
        have B9 := N9.2
        replace OL := ownsRow_later OL B9
        replace OE := ownsRow_later OE B9
        replace OB := ownsRow_later OB B9
        have OI := N9.1
        replace BW := BW.trans (B9.mono BW.size)
        clear B9 N9
        refine hK.out _ _ trivial (fun hHeld => ?_)
        clear hK
        refine wpAnyH_take (i := 15) (oi := _) (v := ?_) rfl (by kernel_rfl) (by kernel_rfl) (by kernel_rfl) (fun _ _ _ h => h) (Or.inl ⟨by rfl, ?_⟩) (by assumption) ?_
        rotate_left
        · intro w hSw
          (try dsimp only at hSw)
          go_simp
          all_goals with_reducible rfl
        simp only [Act.put, List.setIfInBounds_toArray] --TAKE 21
        refine wpAnyH_ready (rs := [16]) (by kernel_rfl) (by simp) ?_
        refine AllReadyH.cons (o := _) rfl (fun K hK => ?_) AllReadyH.nil
        go_simp
        refine hK.out _ _ trivial (fun hHeld => ?_)
        clear hK
        refine wpAnyH_ready (rs := [17]) (by kernel_rfl) (by simp) ?_
        refine AllReadyH.cons (o := _) rfl (fun K hK => ?_) AllReadyH.nil
        go_simp
        refine hK.out _ _ trivial (fun hHeld => ?_)
        clear hK
        refine wpAnyH_done (by kernel_rfl) ?_ _
        have HM := hide (open_meet (s := we.heap.size + 2) BW (by first | rfl | simp) OB OI OL OE P1.out P3 E1.out E2.out)
        clear BW OB OI OL OE
        go_wp2_with fail
        go_meet
        case rel => exact ⟨_, _, _, _, _, _, _, _, _, _, rfl, HM⟩
      refine AllReadyH.cons (o := _) rfl (fun K hK => ?_) AllReadyH.nil
      go_simp
      have N9 := made_own (e := 3) (s := we.heap.size) BW (by first | rfl | simp)
      have B9 := N9.2
      replace OL := ownsRow_later OL B9
      replace OE := ownsRow_later OE B9
      have OI := N9.1
      replace BW := BW.trans (B9.mono BW.size)
      clear B9 N9
      refine hK.out _ _ trivial (fun hHeld => ?_)
      clear hK
      refine wpAnyH_ready (rs := [4]) (by kernel_rfl) (by simp) ?_
      refine AllReadyH.cons (o := _) rfl (fun K hK => ?_) AllReadyH.nil
      go_simp
      have N9 := made_own (e := 4) (s := we.heap.size + 1) BW (by first | rfl | simp)
      have B9 := N9.2
      replace OL := ownsRow_later OL B9
      replace OE := ownsRow_later OE B9
      replace OI := ownsRow_later OI B9
      have OB := N9.1
      replace BW := BW.trans (B9.mono BW.size)
      clear B9 N9
      refine hK.out _ _ trivial (fun hHeld => ?_)
      clear hK
      refine wpAnyH_take (i := 15) (oi := _) (v := ?_) rfl (by kernel_rfl) (by kernel_rfl) (by kernel_rfl) (fun _ _ _ h => h) (Or.inl ⟨by rfl, ?_⟩) (by assumption) ?_
      rotate_left
      · intro w hSw
        (try dsimp only at hSw)
        go_simp
        all_goals with_reducible rfl
      simp only [Act.put, List.setIfInBounds_toArray] --TAKE 22
      refine wpAnyH_ready (rs := [16]) (by kernel_rfl) (by simp) ?_
      refine AllReadyH.cons (o := _) rfl (fun K hK => ?_) AllReadyH.nil
      go_simp
      refine hK.out _ _ trivial (fun hHeld => ?_)
      clear hK
      refine wpAnyH_ready (rs := [17]) (by kernel_rfl) (by simp) ?_
      refine AllReadyH.cons (o := _) rfl (fun K hK => ?_) AllReadyH.nil
      go_simp
      refine hK.out _ _ trivial (fun hHeld => ?_)
      clear hK
      refine wpAnyH_done (by kernel_rfl) ?_ _
      have HM := hide (open_meet (s := we.heap.size + 2) BW (by first | rfl | simp) OB OI OL OE P1.out P3 E1.out E2.out)
      clear BW OB OI OL OE
      go_wp2_with fail
      go_meet
      case rel => exact ⟨_, _, _, _, _, _, _, _, _, _, rfl, HM⟩
    refine AllReadyH.cons (o := _) rfl (fun K hK => ?_) ?_
    · go_simp
      have N9 := made_own (e := 4) (s := W.heap.size) BW (by first | rfl | simp)
      have B9 := N9.2
      have OB := N9.1
      replace BW := BW.trans (B9.mono BW.size)
      clear B9 N9
      refine hK.out _ _ trivial (fun hHeld => ?_)
      clear hK
      refine wpAnyH_ready (rs := [1, 7]) (by kernel_rfl) (by simp) ?_
      refine AllReadyH.cons (o := _) rfl (fun K hK => ?_) ?_
      · go_simp
        refine kclone_nil.mono ?_
        rintro _ _ ⟨rfl, rfl⟩
        go_wp2_with fail
        refine hK.out _ _ trivial (fun hHeld => ?_)
        clear hK
        refine wpAnyH_ready (rs := [7, 10]) (by kernel_rfl) (by simp) ?_
        refine AllReadyH.cons (o := _) rfl (fun K hK => ?_) ?_
        · go_simp
          have N9 := made_own (e := 3) (s := W.heap.size + 1) BW (by first | rfl | simp)
          have B9 := N9.2
          replace OB := ownsRow_later OB B9
          have OI := N9.1
          replace BW := BW.trans (B9.mono BW.size)
          clear B9 N9
          refine hK.out _ _ trivial (fun hHeld => ?_)
          clear hK
          refine wpAnyH_ready (rs := [10]) (by kernel_rfl) (by simp) ?_
          refine AllReadyH.cons (o := _) rfl (fun K hK => ?_) AllReadyH.nil
          go_simp
          refine peaks_nil.mono ?_
          rintro _ wp ⟨gl, cl, H, KK, rfl, P1, _, P3, OL, B9⟩
          replace OL := ownsRow_base OL BW.size
          replace P1 := hide P1
          replace OB := ownsRow_later OB B9
          replace OI := ownsRow_later OI B9
          replace BW := BW.trans (B9.mono BW.size)
          clear B9
          go_wp2_with fail
          refine hK.out _ _ trivial (fun hHeld => ?_)
          clear hK
          refine wpAnyH_ready (rs := [14]) (by kernel_rfl) (by simp) ?_
          refine AllReadyH.cons (o := _) rfl (fun K hK => ?_) AllReadyH.nil
          go_simp
          refine (HE.out _ BW).mono ?_
          rintro _ we ⟨ge, m, es, rfl, E1, E2, OE, B9⟩
          replace OE := ownsRow_base OE BW.size
          replace E1 := hide E1
          replace E2 := hide E2
          replace OB := ownsRow_later OB B9
          replace OI := ownsRow_later OI B9
          replace OL := ownsRow_later OL B9
          replace BW := BW.trans (B9.mono BW.size)
          clear B9
          go_wp2_with fail
          refine hK.out _ _ trivial (fun hHeld => ?_)
          clear hK
          refine wpAnyH_take (i := 15) (oi := _) (v := ?_) rfl (by kernel_rfl) (by kernel_rfl) (by kernel_rfl) (fun _ _ _ h => h) (Or.inl ⟨by rfl, ?_⟩) (by assumption) ?_
          rotate_left
          · intro w hSw
            (try dsimp only at hSw)
            go_simp
            all_goals with_reducible rfl
          simp only [Act.put, List.setIfInBounds_toArray] --TAKE 23
          refine wpAnyH_ready (rs := [16]) (by kernel_rfl) (by simp) ?_
          refine AllReadyH.cons (o := _) rfl (fun K hK => ?_) AllReadyH.nil
          go_simp
          refine hK.out _ _ trivial (fun hHeld => ?_)
          clear hK
          refine wpAnyH_ready (rs := [17]) (by kernel_rfl) (by simp) ?_
          refine AllReadyH.cons (o := _) rfl (fun K hK => ?_) AllReadyH.nil
          go_simp
          refine hK.out _ _ trivial (fun hHeld => ?_)
          clear hK
          refine wpAnyH_done (by kernel_rfl) ?_ _
          have HM := hide (open_meet (s := we.heap.size) BW (by first | rfl | simp) OB OI OL OE P1.out P3 E1.out E2.out)
          clear BW OB OI OL OE
          go_wp2_with fail
          go_meet
          case rel => exact ⟨_, _, _, _, _, _, _, _, _, _, rfl, HM⟩
        refine AllReadyH.cons (o := _) rfl (fun K hK => ?_) AllReadyH.nil
        go_simp
        refine peaks_nil.mono ?_
        rintro _ wp ⟨gl, cl, H, KK, rfl, P1, _, P3, OL, B9⟩
        replace OL := ownsRow_base OL BW.size
        replace P1 := hide P1
        replace OB := ownsRow_later OB B9
        replace BW := BW.trans (B9.mono BW.size)
        clear B9
        go_wp2_with fail
        refine hK.out _ _ trivial (fun hHeld => ?_)
        clear hK
        refine wpAnyH_ready (rs := [7, 14]) (by kernel_rfl) (by simp) ?_
        refine AllReadyH.cons (o := _) rfl (fun K hK => ?_) ?_
        · go_simp
          have N9 := made_own (e := 3) (s := wp.heap.size) BW (by first | rfl | simp)
          have B9 := N9.2
          replace OB := ownsRow_later OB B9
          replace OL := ownsRow_later OL B9
          have OI := N9.1
          replace BW := BW.trans (B9.mono BW.size)
          clear B9 N9
          refine hK.out _ _ trivial (fun hHeld => ?_)
          clear hK
          refine wpAnyH_ready (rs := [14]) (by kernel_rfl) (by simp) ?_
          refine AllReadyH.cons (o := _) rfl (fun K hK => ?_) AllReadyH.nil
          go_simp
          refine (HE.out _ BW).mono ?_
          rintro _ we ⟨ge, m, es, rfl, E1, E2, OE, B9⟩
          replace OE := ownsRow_base OE BW.size
          replace E1 := hide E1
          replace E2 := hide E2
          replace OB := ownsRow_later OB B9
          replace OL := ownsRow_later OL B9
          replace OI := ownsRow_later OI B9
          replace BW := BW.trans (B9.mono BW.size)
          clear B9
          go_wp2_with fail
          refine hK.out _ _ trivial (fun hHeld => ?_)
          clear hK
          refine wpAnyH_take (i := 15) (oi := _) (v := ?_) rfl (by kernel_rfl) (by kernel_rfl) (by kernel_rfl) (fun _ _ _ h => h) (Or.inl ⟨by rfl, ?_⟩) (by assumption) ?_
          rotate_left
          · intro w hSw
            (try dsimp only at hSw)
            go_simp
            all_goals with_reducible rfl
          simp only [Act.put, List.setIfInBounds_toArray] --TAKE 24
          refine wpAnyH_ready (rs := [16]) (by kernel_rfl) (by simp) ?_
          refine AllReadyH.cons (o := _) rfl (fun K hK => ?_) AllReadyH.nil
          go_simp
          refine hK.out _ _ trivial (fun hHeld => ?_)
          clear hK
          refine wpAnyH_ready (rs := [17]) (by kernel_rfl) (by simp) ?_
          refine AllReadyH.cons (o := _) rfl (fun K hK => ?_) AllReadyH.nil
          go_simp
          refine hK.out _ _ trivial (fun hHeld => ?_)
          clear hK
          refine wpAnyH_done (by kernel_rfl) ?_ _
          have HM := hide (open_meet (s := we.heap.size) BW (by first | rfl | simp) OB OI OL OE P1.out P3 E1.out E2.out)
          clear BW OB OI OL OE
          go_wp2_with fail
          go_meet
          case rel => exact ⟨_, _, _, _, _, _, _, _, _, _, rfl, HM⟩
        refine AllReadyH.cons (o := _) rfl (fun K hK => ?_) AllReadyH.nil
        go_simp
        refine (HE.out _ BW).mono ?_
        rintro _ we ⟨ge, m, es, rfl, E1, E2, OE, B9⟩
        replace OE := ownsRow_base OE BW.size
        replace E1 := hide E1
        replace E2 := hide E2
        replace OB := ownsRow_later OB B9
        replace OL := ownsRow_later OL B9
        replace BW := BW.trans (B9.mono BW.size)
        clear B9
        go_wp2_with fail
        refine hK.out _ _ trivial (fun hHeld => ?_)
        clear hK
        refine wpAnyH_ready (rs := [7]) (by kernel_rfl) (by simp) ?_
        refine AllReadyH.cons (o := _) rfl (fun K hK => ?_) AllReadyH.nil
        go_simp
        have N9 := made_own (e := 3) (s := we.heap.size) BW (by first | rfl | simp)
        have B9 := N9.2
        replace OB := ownsRow_later OB B9
        replace OL := ownsRow_later OL B9
        replace OE := ownsRow_later OE B9
        have OI := N9.1
        replace BW := BW.trans (B9.mono BW.size)
        clear B9 N9
        refine hK.out _ _ trivial (fun hHeld => ?_)
        clear hK
        refine wpAnyH_take (i := 15) (oi := _) (v := ?_) rfl (by kernel_rfl) (by kernel_rfl) (by kernel_rfl) (fun _ _ _ h => h) (Or.inl ⟨by rfl, ?_⟩) (by assumption) ?_
        rotate_left
        · intro w hSw
          (try dsimp only at hSw)
          go_simp
          all_goals with_reducible rfl
        simp only [Act.put, List.setIfInBounds_toArray] --TAKE 25
        refine wpAnyH_ready (rs := [16]) (by kernel_rfl) (by simp) ?_
        refine AllReadyH.cons (o := _) rfl (fun K hK => ?_) AllReadyH.nil
        go_simp
        refine hK.out _ _ trivial (fun hHeld => ?_)
        clear hK
        refine wpAnyH_ready (rs := [17]) (by kernel_rfl) (by simp) ?_
        refine AllReadyH.cons (o := _) rfl (fun K hK => ?_) AllReadyH.nil
        go_simp
        refine hK.out _ _ trivial (fun hHeld => ?_)
        clear hK
        refine wpAnyH_done (by kernel_rfl) ?_ _
        have HM := hide (open_meet (s := we.heap.size + 1) BW (by first | rfl | simp) OB OI OL OE P1.out P3 E1.out E2.out)
        clear BW OB OI OL OE
        go_wp2_with fail
        go_meet
        case rel => exact ⟨_, _, _, _, _, _, _, _, _, _, rfl, HM⟩
      refine AllReadyH.cons (o := _) rfl (fun K hK => ?_) AllReadyH.nil
      go_simp
      have N9 := made_own (e := 3) (s := W.heap.size + 1) BW (by first | rfl | simp)
      have B9 := N9.2
      replace OB := ownsRow_later OB B9
      have OI := N9.1
      replace BW := BW.trans (B9.mono BW.size)
      clear B9 N9
      refine hK.out _ _ trivial (fun hHeld => ?_)
      clear hK
      refine wpAnyH_ready (rs := [1]) (by kernel_rfl) (by simp) ?_
      refine AllReadyH.cons (o := _) rfl (fun K hK => ?_) AllReadyH.nil
      go_simp
      refine kclone_nil.mono ?_
      rintro _ _ ⟨rfl, rfl⟩
      go_wp2_with fail
      refine hK.out _ _ trivial (fun hHeld => ?_)
      clear hK
      refine wpAnyH_ready (rs := [10]) (by kernel_rfl) (by simp) ?_
      refine AllReadyH.cons (o := _) rfl (fun K hK => ?_) AllReadyH.nil
      go_simp
      refine peaks_nil.mono ?_
      rintro _ wp ⟨gl, cl, H, KK, rfl, P1, _, P3, OL, B9⟩
      replace OL := ownsRow_base OL BW.size
      replace P1 := hide P1
      replace OB := ownsRow_later OB B9
      replace OI := ownsRow_later OI B9
      replace BW := BW.trans (B9.mono BW.size)
      clear B9
      go_wp2_with fail
      refine hK.out _ _ trivial (fun hHeld => ?_)
      clear hK
      refine wpAnyH_ready (rs := [14]) (by kernel_rfl) (by simp) ?_
      refine AllReadyH.cons (o := _) rfl (fun K hK => ?_) AllReadyH.nil
      go_simp
      refine (HE.out _ BW).mono ?_
      rintro _ we ⟨ge, m, es, rfl, E1, E2, OE, B9⟩
      replace OE := ownsRow_base OE BW.size
      replace E1 := hide E1
      replace E2 := hide E2
      replace OB := ownsRow_later OB B9
      replace OI := ownsRow_later OI B9
      replace OL := ownsRow_later OL B9
      replace BW := BW.trans (B9.mono BW.size)
      clear B9
      go_wp2_with fail
      refine hK.out _ _ trivial (fun hHeld => ?_)
      clear hK
      refine wpAnyH_take (i := 15) (oi := _) (v := ?_) rfl (by kernel_rfl) (by kernel_rfl) (by kernel_rfl) (fun _ _ _ h => h) (Or.inl ⟨by rfl, ?_⟩) (by assumption) ?_
      rotate_left
      · intro w hSw
        (try dsimp only at hSw)
        go_simp
        all_goals with_reducible rfl
      simp only [Act.put, List.setIfInBounds_toArray] --TAKE 26
      refine wpAnyH_ready (rs := [16]) (by kernel_rfl) (by simp) ?_
      refine AllReadyH.cons (o := _) rfl (fun K hK => ?_) AllReadyH.nil
      go_simp
      refine hK.out _ _ trivial (fun hHeld => ?_)
      clear hK
      refine wpAnyH_ready (rs := [17]) (by kernel_rfl) (by simp) ?_
      refine AllReadyH.cons (o := _) rfl (fun K hK => ?_) AllReadyH.nil
      go_simp
      refine hK.out _ _ trivial (fun hHeld => ?_)
      clear hK
      refine wpAnyH_done (by kernel_rfl) ?_ _
      have HM := hide (open_meet (s := we.heap.size) BW (by first | rfl | simp) OB OI OL OE P1.out P3 E1.out E2.out)
      clear BW OB OI OL OE
      go_wp2_with fail
      go_meet
      case rel => exact ⟨_, _, _, _, _, _, _, _, _, _, rfl, HM⟩
    refine AllReadyH.cons (o := _) rfl (fun K hK => ?_) AllReadyH.nil
    go_simp
    have N9 := made_own (e := 3) (s := W.heap.size) BW (by first | rfl | simp)
    have B9 := N9.2
    have OI := N9.1
    replace BW := BW.trans (B9.mono BW.size)
    clear B9 N9
    refine hK.out _ _ trivial (fun hHeld => ?_)
    clear hK
    refine wpAnyH_ready (rs := [1, 4]) (by kernel_rfl) (by simp) ?_
    refine AllReadyH.cons (o := _) rfl (fun K hK => ?_) ?_
    · go_simp
      refine kclone_nil.mono ?_
      rintro _ _ ⟨rfl, rfl⟩
      go_wp2_with fail
      refine hK.out _ _ trivial (fun hHeld => ?_)
      clear hK
      refine wpAnyH_ready (rs := [4, 10]) (by kernel_rfl) (by simp) ?_
      refine AllReadyH.cons (o := _) rfl (fun K hK => ?_) ?_
      · go_simp
        have N9 := made_own (e := 4) (s := W.heap.size + 1) BW (by first | rfl | simp)
        have B9 := N9.2
        replace OI := ownsRow_later OI B9
        have OB := N9.1
        replace BW := BW.trans (B9.mono BW.size)
        clear B9 N9
        refine hK.out _ _ trivial (fun hHeld => ?_)
        clear hK
        refine wpAnyH_ready (rs := [10]) (by kernel_rfl) (by simp) ?_
        refine AllReadyH.cons (o := _) rfl (fun K hK => ?_) AllReadyH.nil
        go_simp
        refine peaks_nil.mono ?_
        rintro _ wp ⟨gl, cl, H, KK, rfl, P1, _, P3, OL, B9⟩
        replace OL := ownsRow_base OL BW.size
        replace P1 := hide P1
        replace OI := ownsRow_later OI B9
        replace OB := ownsRow_later OB B9
        replace BW := BW.trans (B9.mono BW.size)
        clear B9
        go_wp2_with fail
        refine hK.out _ _ trivial (fun hHeld => ?_)
        clear hK
        refine wpAnyH_ready (rs := [14]) (by kernel_rfl) (by simp) ?_
        refine AllReadyH.cons (o := _) rfl (fun K hK => ?_) AllReadyH.nil
        go_simp
        refine (HE.out _ BW).mono ?_
        rintro _ we ⟨ge, m, es, rfl, E1, E2, OE, B9⟩
        replace OE := ownsRow_base OE BW.size
        replace E1 := hide E1
        replace E2 := hide E2
        replace OI := ownsRow_later OI B9
        replace OB := ownsRow_later OB B9
        replace OL := ownsRow_later OL B9
        replace BW := BW.trans (B9.mono BW.size)
        clear B9
        go_wp2_with fail
        refine hK.out _ _ trivial (fun hHeld => ?_)
        clear hK
        refine wpAnyH_take (i := 15) (oi := _) (v := ?_) rfl (by kernel_rfl) (by kernel_rfl) (by kernel_rfl) (fun _ _ _ h => h) (Or.inl ⟨by rfl, ?_⟩) (by assumption) ?_
        rotate_left
        · intro w hSw
          (try dsimp only at hSw)
          go_simp
          all_goals with_reducible rfl
        simp only [Act.put, List.setIfInBounds_toArray] --TAKE 27
        refine wpAnyH_ready (rs := [16]) (by kernel_rfl) (by simp) ?_
        refine AllReadyH.cons (o := _) rfl (fun K hK => ?_) AllReadyH.nil
        go_simp
        refine hK.out _ _ trivial (fun hHeld => ?_)
        clear hK
        refine wpAnyH_ready (rs := [17]) (by kernel_rfl) (by simp) ?_
        refine AllReadyH.cons (o := _) rfl (fun K hK => ?_) AllReadyH.nil
        go_simp
        refine hK.out _ _ trivial (fun hHeld => ?_)
        clear hK
        refine wpAnyH_done (by kernel_rfl) ?_ _
        have HM := hide (open_meet (s := we.heap.size) BW (by first | rfl | simp) OB OI OL OE P1.out P3 E1.out E2.out)
        clear BW OB OI OL OE
        go_wp2_with fail
        go_meet
        case rel => exact ⟨_, _, _, _, _, _, _, _, _, _, rfl, HM⟩
      refine AllReadyH.cons (o := _) rfl (fun K hK => ?_) AllReadyH.nil
      go_simp
      refine peaks_nil.mono ?_
      rintro _ wp ⟨gl, cl, H, KK, rfl, P1, _, P3, OL, B9⟩
      replace OL := ownsRow_base OL BW.size
      replace P1 := hide P1
      replace OI := ownsRow_later OI B9
      replace BW := BW.trans (B9.mono BW.size)
      clear B9
      go_wp2_with fail
      refine hK.out _ _ trivial (fun hHeld => ?_)
      clear hK
      refine wpAnyH_ready (rs := [4, 14]) (by kernel_rfl) (by simp) ?_
      refine AllReadyH.cons (o := _) rfl (fun K hK => ?_) ?_
      · go_simp
        have N9 := made_own (e := 4) (s := wp.heap.size) BW (by first | rfl | simp)
        have B9 := N9.2
        replace OI := ownsRow_later OI B9
        replace OL := ownsRow_later OL B9
        have OB := N9.1
        replace BW := BW.trans (B9.mono BW.size)
        clear B9 N9
        refine hK.out _ _ trivial (fun hHeld => ?_)
        clear hK
        refine wpAnyH_ready (rs := [14]) (by kernel_rfl) (by simp) ?_
        refine AllReadyH.cons (o := _) rfl (fun K hK => ?_) AllReadyH.nil
        go_simp
        refine (HE.out _ BW).mono ?_
        rintro _ we ⟨ge, m, es, rfl, E1, E2, OE, B9⟩
        replace OE := ownsRow_base OE BW.size
        replace E1 := hide E1
        replace E2 := hide E2
        replace OI := ownsRow_later OI B9
        replace OL := ownsRow_later OL B9
        replace OB := ownsRow_later OB B9
        replace BW := BW.trans (B9.mono BW.size)
        clear B9
        go_wp2_with fail
        refine hK.out _ _ trivial (fun hHeld => ?_)
        clear hK
        refine wpAnyH_take (i := 15) (oi := _) (v := ?_) rfl (by kernel_rfl) (by kernel_rfl) (by kernel_rfl) (fun _ _ _ h => h) (Or.inl ⟨by rfl, ?_⟩) (by assumption) ?_
        rotate_left
        · intro w hSw
          (try dsimp only at hSw)
          go_simp
          all_goals with_reducible rfl
        simp only [Act.put, List.setIfInBounds_toArray] --TAKE 28
        refine wpAnyH_ready (rs := [16]) (by kernel_rfl) (by simp) ?_
        refine AllReadyH.cons (o := _) rfl (fun K hK => ?_) AllReadyH.nil
        go_simp
        refine hK.out _ _ trivial (fun hHeld => ?_)
        clear hK
        refine wpAnyH_ready (rs := [17]) (by kernel_rfl) (by simp) ?_
        refine AllReadyH.cons (o := _) rfl (fun K hK => ?_) AllReadyH.nil
        go_simp
        refine hK.out _ _ trivial (fun hHeld => ?_)
        clear hK
        refine wpAnyH_done (by kernel_rfl) ?_ _
        have HM := hide (open_meet (s := we.heap.size) BW (by first | rfl | simp) OB OI OL OE P1.out P3 E1.out E2.out)
        clear BW OB OI OL OE
        go_wp2_with fail
        go_meet
        case rel => exact ⟨_, _, _, _, _, _, _, _, _, _, rfl, HM⟩
      refine AllReadyH.cons (o := _) rfl (fun K hK => ?_) AllReadyH.nil
      go_simp
      refine (HE.out _ BW).mono ?_
      rintro _ we ⟨ge, m, es, rfl, E1, E2, OE, B9⟩
      replace OE := ownsRow_base OE BW.size
      replace E1 := hide E1
      replace E2 := hide E2
      replace OI := ownsRow_later OI B9
      replace OL := ownsRow_later OL B9
      replace BW := BW.trans (B9.mono BW.size)
      clear B9
      go_wp2_with fail
      refine hK.out _ _ trivial (fun hHeld => ?_)
      clear hK
      refine wpAnyH_ready (rs := [4]) (by kernel_rfl) (by simp) ?_
      refine AllReadyH.cons (o := _) rfl (fun K hK => ?_) AllReadyH.nil
      go_simp
      have N9 := made_own (e := 4) (s := we.heap.size) BW (by first | rfl | simp)
      have B9 := N9.2
      replace OI := ownsRow_later OI B9
      replace OL := ownsRow_later OL B9
      replace OE := ownsRow_later OE B9
      have OB := N9.1
      replace BW := BW.trans (B9.mono BW.size)
      clear B9 N9
      refine hK.out _ _ trivial (fun hHeld => ?_)
      clear hK
      refine wpAnyH_take (i := 15) (oi := _) (v := ?_) rfl (by kernel_rfl) (by kernel_rfl) (by kernel_rfl) (fun _ _ _ h => h) (Or.inl ⟨by rfl, ?_⟩) (by assumption) ?_
      rotate_left
      · intro w hSw
        (try dsimp only at hSw)
        go_simp
        all_goals with_reducible rfl
      simp only [Act.put, List.setIfInBounds_toArray] --TAKE 29
      refine wpAnyH_ready (rs := [16]) (by kernel_rfl) (by simp) ?_
      refine AllReadyH.cons (o := _) rfl (fun K hK => ?_) AllReadyH.nil
      go_simp
      refine hK.out _ _ trivial (fun hHeld => ?_)
      clear hK
      refine wpAnyH_ready (rs := [17]) (by kernel_rfl) (by simp) ?_
      refine AllReadyH.cons (o := _) rfl (fun K hK => ?_) AllReadyH.nil
      go_simp
      refine hK.out _ _ trivial (fun hHeld => ?_)
      clear hK
      refine wpAnyH_done (by kernel_rfl) ?_ _
      have HM := hide (open_meet (s := we.heap.size + 1) BW (by first | rfl | simp) OB OI OL OE P1.out P3 E1.out E2.out)
      clear BW OB OI OL OE
      go_wp2_with fail
      go_meet
      case rel => exact ⟨_, _, _, _, _, _, _, _, _, _, rfl, HM⟩
    refine AllReadyH.cons (o := _) rfl (fun K hK => ?_) AllReadyH.nil
    go_simp
    have N9 := made_own (e := 4) (s := W.heap.size + 1) BW (by first | rfl | simp)
    have B9 := N9.2
    replace OI := ownsRow_later OI B9
    have OB := N9.1
    replace BW := BW.trans (B9.mono BW.size)
    clear B9 N9
    refine hK.out _ _ trivial (fun hHeld => ?_)
    clear hK
    refine wpAnyH_ready (rs := [1]) (by kernel_rfl) (by simp) ?_
    refine AllReadyH.cons (o := _) rfl (fun K hK => ?_) AllReadyH.nil
    go_simp
    refine kclone_nil.mono ?_
    rintro _ _ ⟨rfl, rfl⟩
    go_wp2_with fail
    refine hK.out _ _ trivial (fun hHeld => ?_)
    clear hK
    refine wpAnyH_ready (rs := [10]) (by kernel_rfl) (by simp) ?_
    refine AllReadyH.cons (o := _) rfl (fun K hK => ?_) AllReadyH.nil
    go_simp
    refine peaks_nil.mono ?_
    rintro _ wp ⟨gl, cl, H, KK, rfl, P1, _, P3, OL, B9⟩
    replace OL := ownsRow_base OL BW.size
    replace P1 := hide P1
    replace OI := ownsRow_later OI B9
    replace OB := ownsRow_later OB B9
    replace BW := BW.trans (B9.mono BW.size)
    clear B9
    go_wp2_with fail
    refine hK.out _ _ trivial (fun hHeld => ?_)
    clear hK
    refine wpAnyH_ready (rs := [14]) (by kernel_rfl) (by simp) ?_
    refine AllReadyH.cons (o := _) rfl (fun K hK => ?_) AllReadyH.nil
    go_simp
    refine (HE.out _ BW).mono ?_
    rintro _ we ⟨ge, m, es, rfl, E1, E2, OE, B9⟩
    replace OE := ownsRow_base OE BW.size
    replace E1 := hide E1
    replace E2 := hide E2
    replace OI := ownsRow_later OI B9
    replace OB := ownsRow_later OB B9
    replace OL := ownsRow_later OL B9
    replace BW := BW.trans (B9.mono BW.size)
    clear B9
    go_wp2_with fail
    refine hK.out _ _ trivial (fun hHeld => ?_)
    clear hK
    refine wpAnyH_take (i := 15) (oi := _) (v := ?_) rfl (by kernel_rfl) (by kernel_rfl) (by kernel_rfl) (fun _ _ _ h => h) (Or.inl ⟨by rfl, ?_⟩) (by assumption) ?_
    rotate_left
    · intro w hSw
      (try dsimp only at hSw)
      go_simp
      all_goals with_reducible rfl
    simp only [Act.put, List.setIfInBounds_toArray] --TAKE 30
    refine wpAnyH_ready (rs := [16]) (by kernel_rfl) (by simp) ?_
    refine AllReadyH.cons (o := _) rfl (fun K hK => ?_) AllReadyH.nil
    go_simp
    refine hK.out _ _ trivial (fun hHeld => ?_)
    clear hK
    refine wpAnyH_ready (rs := [17]) (by kernel_rfl) (by simp) ?_
    refine AllReadyH.cons (o := _) rfl (fun K hK => ?_) AllReadyH.nil
    go_simp
    refine hK.out _ _ trivial (fun hHeld => ?_)
    clear hK
    refine wpAnyH_done (by kernel_rfl) ?_ _
    have HM := hide (open_meet (s := we.heap.size) BW (by first | rfl | simp) OB OI OL OE P1.out P3 E1.out E2.out)
    clear BW OB OI OL OE
    go_wp2_with fail
    go_meet
    case rel => exact ⟨_, _, _, _, _, _, _, _, _, _, rfl, HM⟩
  case rest =>
  obtain ⟨lb, gb, gi, gl, cl, H, K, ge, m, es, rfl, HO⟩ := hcut
  rename World => w2
  have hR := HO.out
  have z4 : w2.cell? ⟨lb, 4, none⟩ = some (.slice (some ⟨ge, 0, none⟩) m m) := by simp [World.cell?, hR.box]
  have hm : m ≤ 1048576 := by
    have h1 := hR.len
    rw [hR.ents, List.length_map] at h1
    have h2 := keysC_len (rs.map RC.key)
    rw [List.length_map] at h2
    have h3 := HNN.out
    omega
  have HP := hide (newPeaks_any (W := w2) (m := m) hm)
  clear hR hm HE
  go_wp2_with fail
  refine HP.out.mono ?_
  rintro _ w3 ⟨gf, cf, H2, K2, rfl, Q1, Q2, Q3, OF, B3⟩
  have hbx := below_box B3 HO.out.box
  have z5 : w3.cell? ⟨lb, 5, none⟩ = some (.slice none 0 0) := by simp [World.cell?, hbx]
  have f5 : w3.frozen? ⟨lb, 5, none⟩ = false := by simp [World.frozen?, hbx]
  have HL := hide (open_end HO.out B3 Q1 OF)
  have HQ2 := hide Q2
  have HQ3 := hide Q3
  clear Q1 Q2 Q3 OF B3 hbx HP z4
  go_wp2_with fail
  go_loopw [6] (fun s wq => s = .int .i64 (-1) ∧ wq = w3.setCell ⟨lb, 5, none⟩ (.slice (some ⟨gf, 0, none⟩) (2 * H2) cf)) (fun _ _ => 0)
  case atStart => exact ⟨rfl, rfl⟩
  case round =>
    obtain ⟨rfl, rfl⟩ := hrel
    go_wp2
    go_ret
    exact ⟨lb, _, _, rfl, HL.out.1, rfl, HO.out.ents, rfl, by rw [HO.out.len]; exact HQ2.out, HO.out.few, HQ3.out, ⟨ge, rfl⟩, HL.out.2⟩
end Go.Proofs.Ytcabfohmimglpaa
