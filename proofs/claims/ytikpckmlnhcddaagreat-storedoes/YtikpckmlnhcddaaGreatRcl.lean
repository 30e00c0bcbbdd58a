/-
  The reference: Clone. The conditions: lengths.
-/
import Derived.Test.YtikpckmlnhcddaaGreatRws
import Derived.Deep.RegionHeld3
namespace Go.Proofs.YtikpckmlnhcddaaGreat
open Go.RowKit Go.Maps

theorem cell_set_far {w : World} {cb o : Nat} {v u : Value} {a : Addr} (h : w.cell? a = some u) (hn : a.block ≠ cb) : (w.setCell ⟨cb, o, none⟩ v).cell? a = some u :=
  (Only.set (F := (· = cb)) w cb o v rfl).cell h (fun e => hn e)
/-- A clone under way: its files up to the k-th. -/
structure Cln (W : World) (S cb : Nat) (R : RS) (k : Nat) (M : List RF) (lv : Value) : Prop where
  box : W.heap[cb]? = some (.cells #[lv, .slice none 0 0, .int .i64 R.most, .bool R.down] 67 (0, 0))
  row : W.ownsRow S 100 2 lv k (M.flatMap RF.cells)
  core : M.map RF.core = (R.L.take k).map RF.core
  own : ∀ f ∈ M, W.ownsRow S 5 1 f.bv f.b.length (f.b.map (Value.int .u8)) ∧ U8 f.b
  lo : S ≤ cb
theorem Cln.fresh {W W' : World} {S cb : Nat} {R : RS} {k : Nat} {M : List RF} {lv : Value} (h : Cln W S cb R k M lv) (hb : Below W.heap.size W W') : Cln W' S cb R k M lv :=
  ⟨below_box hb h.box, ownsRow_later h.row hb, h.core, fun f hf => ⟨ownsRow_later (h.own f hf).1 hb, (h.own f hf).2⟩, h.lo⟩
theorem own_other {W : World} {S cb n k j : Nat} {e e' : TypeId} {v v' : Value} {m : Nat} {xs ys : List Value} (h : W.ownsRow S e k v n xs) (h' : W.ownsRow cb e' j v' m ys) (hne : e ≠ e') {i : Nat} (hi : v.ownBlock = some i) : v'.ownBlock ≠ some i := fun hi' => by
  obtain ⟨_, cur, hc⟩ := own_block_lt h hi
  obtain ⟨_, cur', hc'⟩ := own_block_lt h' hi'
  rw [hc] at hc'
  simp at hc'
  exact hne hc'.2
theorem own_not_box {W : World} {S n k i : Nat} {e t : TypeId} {v : Value} {xs : List Value} {cs : Array Value} (h : W.ownsRow S e k v n xs) (hb : W.heap[i]? = some (.cells cs t (0, 0))) (hne : e ≠ t) : v.ownBlock ≠ some i := fun hi => by
  obtain ⟨_, cur, hc⟩ := own_block_lt h hi
  rw [hb] at hc
  simp at hc
  exact hne hc.2.symm
theorem Cln.push {W0 wx w1 w2 : World} {cb k n : Nat} {R : RS} {M : List RF} {lv v1 v2 : Value} {nm : Nm} {b : By} {o : Obj} (h : Cln wx W0.heap.size cb R k M lv) (hW : Below W0.heap.size W0 wx) (hb1 : Below wx.heap.size wx w1)
    (o1 : w1.ownsRow wx.heap.size 5 1 v1 b.length (b.map (Value.int .u8))) (hu : U8 b) (hk : k < R.L.length) (hx : (R.L[k]!).core = ⟨nm, b⟩)
    (o2 : w2.ownsRow W0.heap.size 100 2 v2 n (M.flatMap RF.cells ++ [.string ⟨nm.toArray⟩, v1])) (hn : n = k + 1) (g2 : (w1.alloc o).grownBy w2 lv.ownBlock) :
    Cln (w2.setCell ⟨cb, 0, none⟩ v2) W0.heap.size cb R (k + 1) (M ++ [⟨nm, b, v1⟩]) v2 ∧ Below W0.heap.size W0 (w2.setCell ⟨cb, 0, none⟩ v2) := by
  subst hn
  have hbX : Below wx.heap.size wx (w1.alloc o) := hb1.trans ((alloc_below w1 o).mono hb1.size)
  have hX := h.fresh hbX
  have hg : Only (fun i => lv.ownBlock = some i) (w1.alloc o) w2 := Only.of_grown g2 (fun k e => e)
  have hbox : w2.heap[cb]? = some (.cells #[lv, .slice none 0 0, .int .i64 R.most, .bool R.down] 67 (0, 0)) := hg.obj hX.box (own_not_box hX.row hX.box (by decide))
  have hset : Only (· = cb) w2 (w2.setCell ⟨cb, 0, none⟩ v2) := Only.set _ _ _ _ rfl
  have o1X : (w1.alloc o).ownsRow wx.heap.size 5 1 v1 b.length (b.map (Value.int .u8)) := ownsRow_later o1 (alloc_below w1 o)
  have keep : ∀ {base m : Nat} {v : Value} {xs : List Value}, (w1.alloc o).ownsRow base 5 1 v m xs → (w2.setCell ⟨cb, 0, none⟩ v2).ownsRow base 5 1 v m xs := fun hv => by
    have a1 := ownsRow_only hv hg (fun i hi e => own_other hv hX.row (by decide) hi e)
    exact ownsRow_only a1 hset (fun i hi e => by subst e; exact own_not_box a1 hbox (by decide) hi)
  have hsz : W0.heap.size ≤ wx.heap.size := hW.size
  refine ⟨⟨?_, ?_, ?_, fun f hf => ?_, h.lo⟩, ?_⟩
  · rw [heap_set_same hbox]; rfl
  · refine ownsRow_only ?_ hset (fun i hi e => by subst e; exact own_not_box o2 hbox (by decide) hi)
    rw [List.flatMap_append]
    simpa [RF.cells, strV] using o2
  · rw [List.map_append, h.core, List.take_succ_eq_append_getElem hk, List.map_append]
    rw [getElem!_pos R.L k hk] at hx
    simp only [List.map_cons, List.map_nil, hx]
    rfl
  · rcases List.mem_append.1 hf with hf | hf
    · exact ⟨keep (hX.own f hf).1, (hX.own f hf).2⟩
    · simp only [List.mem_singleton] at hf
      subst hf
      exact ⟨own_base5 (keep o1X) hsz, hu⟩
  · have b1 : Below W0.heap.size W0 (w1.alloc o) := hW.trans (hbX.mono hsz)
    have b2 := b1.trans (hg.below b1.size (fun i hi => own_block_base hX.row hi))
    exact b2.trans (hset.below b2.size (fun i e => by have e' : i = cb := e; have := h.lo; omega))

theorem Cln.done {W0 wx w1 : World} {rb cb n : Nat} {R : RS} {M : List RF} {lv v1 : Value} (h : Cln wx W0.heap.size cb R R.L.length M lv) (hR : RRep W0 rb R) (hW : Below W0.heap.size W0 wx) (hb1 : Below wx.heap.size wx w1)
    (o1 : w1.ownsRow wx.heap.size 98 3 v1 n (R.P.flatMap RP.cells)) (hn : n = R.P.length) :
    ∃ R', RRep (w1.setCell ⟨cb, 1, none⟩ v1) cb R' ∧ R'.core = R.core ∧ Below W0.heap.size W0 (w1.setCell ⟨cb, 1, none⟩ v1) ∧ (∀ i, rown cb R' i → W0.heap.size ≤ i) ∧ (∀ i, rcov R' i → rcov R i ∨ W0.heap.size ≤ i) := by
  subst hn
  have h1 := h.fresh hb1
  have hset : Only (· = cb) w1 (w1.setCell ⟨cb, 1, none⟩ v1) := Only.set _ _ _ _ rfl
  have hsz : W0.heap.size ≤ wx.heap.size := hW.size
  have bW : Below W0.heap.size W0 w1 := hW.trans (hb1.mono hsz)
  have bX : Below W0.heap.size W0 (w1.setCell ⟨cb, 1, none⟩ v1) := bW.trans (hset.below bW.size (fun i e => by have e' : i = cb := e; have := h.lo; omega))
  have keep : ∀ {base m k : Nat} {e : TypeId} {v : Value} {xs : List Value}, w1.ownsRow base e k v m xs → e ≠ 67 → (w1.setCell ⟨cb, 1, none⟩ v1).ownsRow base e k v m xs := fun hv he => ownsRow_only hv hset (fun i hi e => by subst e; exact own_not_box hv h1.box he hi)
  have hRX := hR.fresh bX
  have hml : M.length = R.L.length := by have := congrArg List.length h.core; simpa using this
  refine ⟨⟨M, R.P, R.most, R.down, lv, v1⟩, ⟨?_, ?_, ?_, fun f hf => ⟨?_, (h.own f hf).2⟩, fun p hp => hRX.pb p hp, ?_⟩, ?_, bX, ?_, ?_⟩
  · rw [heap_set_same h1.box]; rfl
  · simp only [hml]
    exact own_base5 (keep h1.row (by decide)) (Nat.zero_le _)
  · exact own_base5 (keep o1 (by decide)) (Nat.zero_le _)
  · exact own_row (keep (h1.own f hf).1 (by decide))
  · rintro i (⟨f, hf, _, hi⟩ | ⟨p, hp, hb, hi⟩) (e | e | e)
    · exact own_not_box (h1.own f hf).1 h1.box (by decide) (by rw [hi, e])
    · exact own_other (h1.own f hf).1 h1.row (by decide) hi e
    · exact own_other (h1.own f hf).1 o1 (by decide) hi e
    · have h2 := hR.rcov_lt (.inr ⟨p, hp, hb, hi⟩)
      have h3 := h.lo
      omega
    · have h2 := hR.rcov_lt (.inr ⟨p, hp, hb, hi⟩)
      have h3 := own_block_base h1.row e
      omega
    · have h2 := hR.rcov_lt (.inr ⟨p, hp, hb, hi⟩)
      have h3 := own_block_base o1 e
      omega
  · unfold RS.core
    simp only
    rw [h.core, List.take_length]
  · rintro i (e | e | e)
    · have := h.lo; omega
    · exact own_block_base h1.row e
    · exact Nat.le_trans hsz (own_block_base o1 e)
  · rintro i (⟨f, hf, _, hi⟩ | h2)
    · exact .inr (own_block_base (h1.own f hf).1 hi)
    · exact .inl (.inr h2)

/-- An append, under a name that the walk does not open. -/
def appSem (ats : Array TypeId) (args : Array Value) : Sem Next := builtin .append ats 0 #[] args
theorem builtin_app (ats : Array TypeId) (ty : TypeId) (cs : Array Bool) (args : Array Value) : builtin .append ats ty cs args = appSem ats args := rfl
theorem app_run {P : Program} {ats : Array TypeId} {args : Array Value} {w w' : World} {v : Value} (h : (Builtin.append_ ats 0 args).run P w = .ok v w') : (appSem ats args).run P w = .ok (.value v) w' := by
  unfold appSem
  rw [BigFrame.builtin_append]
  simp [h, Result.andThen]
theorem seg_run {P : Program} (w : World) (t : TypeId) (base : Nat) (e : TypeId) (i : TypeInfo) (z : Value) (size bytes : Nat) (ht : P.underlying t = some (.slice e)) (hi : P.info? e = some i) (hz : i.zero = some z)
    (hsize : i.size = size) (hby : i.bytes = bytes) (hzs : z.cells.size = size) (hsz : 0 < size) (v : Value) (n : Nat) (xs : List Value) (hown : w.ownsRow base e size v n xs)
    (vx : Value) (m : Nat) (news : List Value) (hseg : Seg w size vx m news) (h63 : n + m ≤ maxLen) (hbytes : (n + m) * bytes ≤ 140737488355328) (hbase : base ≤ w.heap.size) :
    ∃ p' c' w', (appSem #[t, t] #[v, vx]).run P w = .ok (.value (.slice p' (n + m) c')) w' ∧ w'.ownsRow base e size (.slice p' (n + m) c') (n + m) (xs ++ news) ∧ w.grownBy w' v.ownBlock := by
  obtain ⟨p, c, rfl, h1, h2, h3, h4, h5, h6⟩ := hseg
  cases p with
  | none =>
    obtain rfl : c = 0 := h5 rfl
    obtain rfl : m = 0 := by omega
    obtain rfl : news = [] := List.eq_nil_of_length_eq_zero (by omega)
    obtain ⟨p', c', rfl, _, _⟩ := own_form hown
    exact ⟨p', c', w, app_run <| run_append_owned_none (P := P) (w := w) base t 0 e i size ht hi (.slice p' n c') n xs hown, by simpa using hown, ⟨rfl, rfl, rfl, Nat.le_refl _, fun _ _ _ => rfl⟩⟩
  | some ad =>
    obtain ⟨v', w', hr, g1, g2, _⟩ := run_append_own (P := P) w base t 0 e i z size bytes ht hi hz hsize hby hzs hsz v n xs hown ad m c news h3 (h6 ad rfl) h4 h63 hbytes hbase
    obtain ⟨p', c', rfl, _, _⟩ := own_form g1
    exact ⟨p', c', w', app_run hr, g1, g2⟩

attribute [local go_sem ↓ high] builtin_app in
set_option maxRecDepth 100000 in
set_option maxHeartbeats 8000000 in
theorem rclone_any {W : World} {rb : Nat} {R : RS} (h : RRep W rb R) (hok : RefOk R) (hbl : ∀ f ∈ R.L, f.b.length ≤ 4194304) :
    Calls Tryz.prog 23 #[.pointer (some ⟨rb, 0, none⟩)] W fun e w' => ∃ cb R', e = .returned (.pointer (some ⟨cb, 0, none⟩)) ∧ RRep w' cb R' ∧ R'.core = R.core ∧ Below W.heap.size W w' ∧ (∀ i, rown cb R' i → W.heap.size ≤ i) ∧ (∀ i, rcov R' i → rcov R i ∨ W.heap.size ≤ i) := by
  obtain ⟨c0, c1, c2, c3⟩ := h.rcells
  obtain ⟨p, cap, he, h1, h2⟩ := own_form h.lrow
  rw [he] at c0
  obtain ⟨pp, pcap, hpe, h3, h4⟩ := own_form h.prow
  rw [hpe] at c1
  have H := hide h
  have HE := hide he
  have HPE := hide hpe
  have hL := hok.L
  have hP := hok.P
  have HBL := hide hbl
  have hrl := h.rown_lt (.inl rfl)
  obtain ⟨i0, hI0, hz0, hz1, hz2⟩ := info_parts Tryz.infoU8
  obtain ⟨i1, hJ0, hy0, hy1, hy2⟩ := info_parts Tryz.infoFi
  obtain ⟨i2, hL0, hx0, hx1, hx2⟩ := info_parts Tryz.infoPe
  clear h hok he hpe hbl
  go_enter Tryz.func23, Tryz.ntmps23
  go_upto_region 1 with fail
  go_cut [3] from 6 (fun s3 wc => s3 = .pointer (some ⟨W.heap.size, 0, none⟩) ∧ Hid (Below W.heap.size W wc) ∧ Hid (Cln wc W.heap.size W.heap.size R 0 [] (.slice none 0 0)))
  case first =>
    go_region
    all_goals
      go_wp2_with fail
      go_meet
      case rel =>
        refine ⟨rfl, hide ?_, hide ?_⟩
        · exact (alloc_below W _).trans (Below.refl _ _).drew
        · exact ⟨heap_alloc_new W _, World.ownsRow_nil _ _ _ _, rfl, by simp, Nat.le_refl _⟩
  case rest =>
    obtain ⟨rfl, HB0, HC0⟩ := hcut
    rename World => wc
    clear c0 c1 c2 c3
    obtain ⟨cb, hcb⟩ : ∃ cb, W.heap.size = cb := ⟨_, rfl⟩
    rw [hcb] at HC0 ⊢
    go_wp2_with fail
    go_loopw [4] (fun i wr => ∃ (k : Nat) (M : List RF) (lp : Option Addr) (lc : Nat), k ≤ R.L.length ∧ i = .int .i64 (k : Int) ∧ k ≤ lc ∧ lc ≤ 9223372036854775807 ∧ Hid (Below W.heap.size W wr) ∧ Hid (Cln wr cb cb R k M (.slice lp k lc))) (fun i _ => R.L.length - (intOf i).toNat)
    case atStart => exact ⟨0, [], none, 0, Nat.zero_le _, rfl, Nat.le_refl _, by decide, HB0, HC0⟩
    case round =>
      clear HB0 HC0
      obtain ⟨k, M, lp, lc, hk, rfl, hlc1, hlc2, HB, HC⟩ := hrel
      have hRw := H.out.fresh HB.out
      have q3 : wr.cell? ⟨rb, 0, none⟩ = some (.slice p R.L.length cap) := by rw [← HE.out]; exact hRw.rcells.1
      by_cases hlt : k < R.L.length
      · have hlr := hRw.lrow
        rw [HE.out] at hlr
        obtain ⟨g, rfl, d0, d1, _, _⟩ := file_cells hlr rfl hlt
        obtain ⟨x, hx⟩ : ∃ x, R.L[k]! = x := ⟨_, rfl⟩
        have hxm : x ∈ R.L := by rw [← hx, getElem!_pos R.L k hlt]; exact List.getElem_mem _
        rw [hx] at d0 d1
        obtain ⟨px, cx, hxe, hx1, hx2, _, _⟩ := id (hRw.lb x hxm).1
        have hxr := (hRw.lb x hxm).1
        rw [hxe] at d1 hxr
        unfold strV at d0
        have hbl := HBL.out x hxm
        have hxu := (hRw.lb x hxm).2
        have HXC : Hid ((R.L[k]!).core = ⟨x.name, x.b⟩) := by rw [hx]; exact hide rfl
        have HXU := hide hxu
        have HK1 : Hid (0 + x.b.length ≤ maxLen) := by show _ ≤ _; unfold maxLen; omega
        have HK2 : Hid ((0 + x.b.length) * 1 ≤ 140737488355328) := by show _ ≤ _; omega
        have HK3 : Hid (k + 1 ≤ maxLen) := by show _ ≤ _; unfold maxLen; omega
        have HK4 : Hid ((k + 1) * 40 ≤ 140737488355328) := by show _ ≤ _; omega
        have HSG := hide (Seg.of_row (hxr.below (Below.refl _ wr).drew))
        have q1 : wr.cell? ⟨cb, 0, none⟩ = some (.slice lp k lc) := by simp [World.cell?, HC.out.box]
        have q2 : cb < wr.heap.size := (Array.getElem?_eq_some_iff.1 HC.out.box).1
        have q5 : rb < wr.heap.size := Nat.lt_of_lt_of_le hrl HB.out.size
        have q6 : g < wr.heap.size := by
          obtain ⟨ob, hob, _⟩ := cells_of_cell d0
          exact (Array.getElem?_eq_some_iff.1 hob).1
        obtain ⟨p1, c1, w1, hr1, o1, g1⟩ := seg_run (P := Tryz.prog) wr.drew 31 wr.heap.size 5 i0 (.int .u8 0) 1 1 Tryz.underlying31 hI0 hz0 hz1 hz2 rfl (by decide) (.slice none 0 0) 0 [] (World.ownsRow_nil _ _ _ _) (.slice px x.b.length cx) x.b.length (x.b.map (Value.int .u8)) HSG.out HK1.out HK2.out (Nat.le_refl _)
        have B1 : Below wr.heap.size wr w1 := after_append (Below.refl _ wr).drew g1
        rw [Nat.zero_add] at hr1 o1
        rw [List.nil_append] at o1
        obtain ⟨O, hO⟩ : ∃ O : Obj, O = .cells #[.string ⟨x.name.toArray⟩, .slice p1 x.b.length c1] 100 (0, 0) := ⟨_, rfl⟩
        have B2 : Below wr.heap.size wr (w1.alloc O) := B1.trans ((alloc_below w1 O).mono B1.size)
        have hseg : Seg (w1.alloc O) 2 (.slice (some ⟨w1.heap.size, 0, none⟩) 1 1) 1 [.string ⟨x.name.toArray⟩, .slice p1 x.b.length c1] := by
          rw [hO]
          exact Seg.news (cs := #[.string ⟨x.name.toArray⟩, .slice p1 x.b.length c1]) (heap_alloc_new _ _) (by intro u hu; simp at hu; rcases hu with rfl | rfl <;> rfl) rfl (by decide) (by decide)
        obtain ⟨p2, c2, w2, hr2, o2, g2⟩ := seg_run (P := Tryz.prog) (w1.alloc O) 64 cb 100 i1 (.agg #[.string ⟨#[]⟩, .slice none 0 0]) 2 40 Tryz.underlying64 hJ0 hy0 hy1 hy2 rfl (by decide) (.slice lp k lc) k (M.flatMap RF.cells) (ownsRow_later HC.out.row B2) _ 1 _ hseg HK3.out HK4.out (by have := B2.size; omega)
        have hX := HC.out.fresh B2
        have hbox := (Only.of_grown (F := fun i => (Value.slice lp k lc).ownBlock = some i) g2 (fun k e => e)).obj hX.box (own_not_box hX.row hX.box (by decide))
        have fz := box_frozen hbox 0
        have fc : w2.cell? ⟨cb, 0, none⟩ = some (.slice lp k lc) := by simp [World.cell?, hbox]
        have HQ : Hid (k + 1 ≤ c2 ∧ c2 ≤ 9223372036854775807 ∧ Cln (w2.setCell ⟨cb, 0, none⟩ (.slice p2 (k + 1) c2)) cb cb R (k + 1) (M ++ [⟨x.name, x.b, .slice p1 x.b.length c1⟩]) (.slice p2 (k + 1) c2) ∧ Below W.heap.size W (w2.setCell ⟨cb, 0, none⟩ (.slice p2 (k + 1) c2))) := by
          obtain ⟨_, _, he2, e1, e2⟩ := own_form o2
          simp only [Value.slice.injEq, true_and] at he2
          obtain ⟨_, rfl⟩ := he2
          have hC := HC.out
          have hW' := HB.out
          subst hcb
          exact hide ⟨e1, e2, hC.push hW' B1 o1 HXU.out hlt HXC.out o2 rfl g2⟩
        have r1 := cell_later B1 q1
        have r2 : cb < w1.heap.size := Nat.lt_of_lt_of_le q2 B1.size
        have r3 := cell_later B1 q3
        have r4 := cell_later B1 d0
        have r5 : rb < w1.heap.size := Nat.lt_of_lt_of_le q5 B1.size
        have r6 : g < w1.heap.size := Nat.lt_of_lt_of_le q6 B1.size
        subst hO
        clear hRw hlr hx hxm hxe hxr hxu hbl HC o1 g1 o2 g2 hX hbox hseg B1 B2
        go_upto_region 6 with fail
        go_region
        all_goals
          go_wp2
          exact ⟨⟨k + 1, _, _, _, by omega, by go_num, HQ.out.1, HQ.out.2.1, hide HQ.out.2.2.2, hide HQ.out.2.2.1⟩, by simp [intOf]; omega⟩
      · obtain rfl : k = R.L.length := by omega
        have hpr := hRw.prow
        rw [HPE.out] at hpr
        have q7 : wr.cell? ⟨rb, 1, none⟩ = some (.slice pp R.P.length pcap) := by rw [← HPE.out]; exact hRw.rcells.2.1
        have q8 : wr.cell? ⟨cb, 1, none⟩ = some (.slice none 0 0) := by simp [World.cell?, HC.out.box]
        have q2 : cb < wr.heap.size := (Array.getElem?_eq_some_iff.1 HC.out.box).1
        have hlen : (R.P.flatMap RP.cells).length = R.P.length * 3 := by
          clear hpr q7 hP h3 h4 HPE
          induction R.P with
          | nil => rfl
          | cons a l ih => rw [List.flatMap_cons, List.length_append, ih]; simp [RP.cells]; omega
        have hseg : Seg wr 3 (.slice pp R.P.length pcap) R.P.length (R.P.flatMap RP.cells) := by
          have := Seg.of_own hpr (pend_one hRw.pb) hlen (Nat.le_refl _)
          rw [List.take_of_length_le (by omega)] at this
          exact this
        obtain ⟨p1, c1, w1, hr1, o1, g1⟩ := seg_run (P := Tryz.prog) wr.drew 65 wr.heap.size 98 i2 (.agg #[.string ⟨#[]⟩, .int .i64 0, .slice none 0 0]) 3 48 Tryz.underlying65 hL0 hx0 hx1 hx2 rfl (by decide) (.slice none 0 0) 0 [] (World.ownsRow_nil _ _ _ _) (.slice pp R.P.length pcap) R.P.length _ (hseg.below (Below.refl _ wr).drew) (by unfold maxLen; omega) (by omega) (Nat.le_refl _)
        have B1 : Below wr.heap.size wr w1 := after_append (Below.refl _ wr).drew g1
        rw [Nat.zero_add] at hr1 o1
        rw [List.nil_append] at o1
        have hX := HC.out.fresh B1
        have fz := box_frozen hX.box 1
        have fc : w1.cell? ⟨cb, 1, none⟩ = some (.slice none 0 0) := by simp [World.cell?, hX.box]
        have r7 := cell_later B1 q7
        have HQ : Hid (∃ R', RRep (w1.setCell ⟨cb, 1, none⟩ (.slice p1 R.P.length c1)) cb R' ∧ R'.core = R.core ∧ Below W.heap.size W (w1.setCell ⟨cb, 1, none⟩ (.slice p1 R.P.length c1)) ∧ (∀ i, rown cb R' i → W.heap.size ≤ i) ∧ (∀ i, rcov R' i → rcov R i ∨ W.heap.size ≤ i)) := by
          have hC := HC.out
          have hW' := HB.out
          subst hcb
          exact hide (hC.done H.out hW' B1 o1 rfl)
        clear hRw hpr hseg HC o1 g1 hX B1 hlen
        go_upto_region 7 with fail
        go_region
        all_goals
          go_wp2
          go_ret
          exact ⟨cb, HQ.out.choose, rfl, HQ.out.choose_spec⟩
end Go.Proofs.YtikpckmlnhcddaaGreat
