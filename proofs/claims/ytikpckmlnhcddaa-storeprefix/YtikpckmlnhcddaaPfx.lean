/-
  StorePrefix, walked: for any operations, writes, and what is kept and torn. The conditions: lengths; what is handed in lies as arguments do.
-/
import Derived.Test.YtikpckmlnhcddaaPpx
import Derived.Test.YtikpckmlnhcddaaLvs
namespace Go.Proofs.Ytikpckmlnhcddaa
open Go.RowKit Go.Maps

/-- Two stores of the program, apart from each other. -/
structure Pair (W : World) (sb mb tb tm : Nat) (fs gs : List MF) (r q : RC) (N M B : Nat) : Prop where
  s : Prg W sb mb fs r N
  t : Prg W tb tm gs q M
  st : ∀ i, own sb mb fs i → ¬ own tb tm gs i ∧ ¬ covs gs i
  ts : ∀ i, own tb tm gs i → ¬ covs fs i
  sB : ∀ i, own sb mb fs i → B ≤ i
  tB : ∀ i, own tb tm gs i → B ≤ i
theorem Pair.fresh {W W' : World} {sb mb tb tm N M B : Nat} {fs gs : List MF} {r q : RC} (h : Pair W sb mb tb tm fs gs r q N M B) (hb : Below W.heap.size W W') : Pair W' sb mb tb tm fs gs r q N M B :=
  ⟨h.s.only (Only.fresh hb fun _ => False) (fun _ _ e => e) (fun _ _ e => e), h.t.only (Only.fresh hb fun _ => False) (fun _ _ e => e) (fun _ _ e => e), h.st, h.ts, h.sB, h.tB⟩
theorem Pair.left {W W' : World} {sb mb tb tm N M N' B : Nat} {fs gs fs' : List MF} {r q r' : RC} (h : Pair W sb mb tb tm fs gs r q N M B) (hB : B ≤ W.heap.size) (hp : Prg W' sb mb fs' r' N') (hs : Step W W' sb mb fs fs') : Pair W' sb mb tb tm fs' gs r' q N' M B ∧ Below B W W' := by
  refine ⟨⟨hp, h.t.only hs.only (fun i hi ho => (h.st i ho).1 hi) (fun i hi ho => (h.st i ho).2 hi), fun i hi => ?_, fun i hi hc => ?_, fun i hi => ?_, h.tB⟩, hs.only.below hB h.sB⟩
  · rcases hs.own i hi with h1 | h1
    · exact h.st i h1
    · exact ⟨fun e => by have := h.t.own_lt e; omega, fun e => by have := h.t.cov_lt e; omega⟩
  · rcases hs.cov i hc with h1 | h1
    · exact h.ts i hi h1
    · have := h.t.own_lt hi; omega
  · rcases hs.own i hi with h1 | h1
    · exact h.sB i h1
    · omega
theorem Pair.right {W W' : World} {sb mb tb tm N M M' B : Nat} {fs gs gs' : List MF} {r q q' : RC} (h : Pair W sb mb tb tm fs gs r q N M B) (hB : B ≤ W.heap.size) (hp : Prg W' tb tm gs' q' M') (hs : Step W W' tb tm gs gs') : Pair W' sb mb tb tm fs gs' r q' N M' B ∧ Below B W W' := by
  refine ⟨⟨h.s.only hs.only (fun i hi ho => (h.st i hi).1 ho) (fun i hi ho => h.ts i ho hi), hp, fun i hi => ⟨fun e => ?_, fun e => ?_⟩, fun i hi hc => ?_, h.sB, fun i hi => ?_⟩, hs.only.below hB h.tB⟩
  · rcases hs.own i e with h1 | h1
    · exact (h.st i hi).1 h1
    · have := h.s.own_lt hi; omega
  · rcases hs.cov i e with h1 | h1
    · exact (h.st i hi).2 h1
    · have := h.s.own_lt hi; omega
  · rcases hs.own i hi with h1 | h1
    · exact h.ts i h1 hc
    · have := h.s.cov_lt hc; omega
  · rcases hs.own i hi with h1 | h1
    · exact h.tB i h1
    · omega
theorem two_pair {w1 w2 : World} {sb mb rb tb tm rc N M B : Nat} {fs gs : List MF} {r q : RC} {R Q : RS} (h1 : Two w1 sb mb rb fs r R N B) (h2 : Two w2 tb tm rc gs q Q M w1.heap.size) (hb : Below w1.heap.size w1 w2) (hB : B ≤ w1.heap.size) : Pair w2 sb mb tb tm fs gs r q N M B := by
  refine ⟨h1.prg.only (Only.fresh hb fun _ => False) (fun _ _ e => e) (fun _ _ e => e), h2.prg, fun i hi => ⟨fun e => ?_, fun e => ?_⟩, fun i hi e => ?_, h1.base, fun i hi => Nat.le_trans hB (h2.base i hi)⟩
  · have := h1.prg.own_lt hi; have := h2.base i e; omega
  · have := h1.prg.own_lt hi; have := h2.cbase i e; omega
  · have := h1.prg.cov_lt e; have := h2.base i hi; omega
theorem Prg.link {W : World} {sb mb N : Nat} {fs : List MF} {r : RC} (h : Prg W sb mb fs r N) : ∀ p ∈ r.P, p.name ∈ r.L.map CF.name := by
  obtain ⟨J, left, pend, turn, _, h2⟩ := h
  intro p hp
  rw [h2.P] at hp
  obtain ⟨j, hj, rfl⟩ := List.mem_map.1 hp
  obtain ⟨f, hf, _, e⟩ := h2.link j hj
  rw [h2.names, ← e]
  exact List.mem_map.2 ⟨f, hf, rfl⟩
theorem Prg.nameLen {W : World} {sb mb N : Nat} {fs : List MF} {r : RC} (h : Prg W sb mb fs r N) {n : Nm} (hn : n ∈ r.L.map CF.name) : n.length ≤ maxLen := by
  obtain ⟨J, left, pend, turn, _, h2⟩ := h
  rw [h2.names] at hn
  obtain ⟨f, hf, rfl⟩ := List.mem_map.1 hn
  exact h2.nm f hf
theorem Prg.count {W : World} {sb mb N : Nat} {fs : List MF} {r : RC} (h : Prg W sb mb fs r N) : (r.L.map CF.name).length ≤ 4096 := by
  obtain ⟨J, left, pend, turn, _, h2⟩ := h
  rw [h2.names, List.length_map]
  exact h2.files
theorem ppending {W : World} {sb mb N : Nat} {fs : List MF} {r : RC} (h : Prg W sb mb fs r N) : Calls Try.prog 10 #[.pointer (some ⟨sb, 0, none⟩)] W fun e w' => e = .returned (.int .i64 (r.P.length : Int)) ∧ w' = W := by
  obtain ⟨J, left, pend, turn, h1, h2⟩ := h
  obtain ⟨c0, _, c2, _, _⟩ := box_cells h1.box
  have := pending_any c0 c2
  rw [h2.pend] at this
  rw [h2.P, List.length_map]
  exact this
theorem psize {W : World} {sb mb N : Nat} {fs : List MF} {r : RC} (h : Prg W sb mb fs r N) (hd : r.down = false) {s : ByteArray} (hn : s.data.toList ∈ r.L.map CF.name) {n : Nat} (hl : (r.all s.data.toList).length = n) : Calls Try.prog 13 #[.pointer (some ⟨sb, 0, none⟩), .string s] W fun e w' => e = .returned (.tuple #[.int .i64 (n : Int), .int .i64 0]) ∧ w' = W := by
  have hlen : s.size ≤ maxLen := by have := h.nameLen hn; simpa using this
  obtain ⟨J, left, pend, turn, h1, h2⟩ := h
  rw [hd] at h1
  obtain ⟨f, hf⟩ := h2.has_some (has_iff.2 hn)
  obtain ⟨hfm, hfn⟩ := mem_of_fileOf hf
  have := size_any h1 hlen
  rw [hf] at this
  simp only at this
  rw [h2.con f hfm, hfn, hl] at this
  exact this
theorem pread {W : World} {sb mb N : Nat} {fs : List MF} {r : RC} (h : Prg W sb mb fs r N) (hd : r.down = false) {s : ByteArray} (hn : s.data.toList ∈ r.L.map CF.name) {n : Nat} {c : By} (hc : r.all s.data.toList = c) (hl : c.length = n) : Calls Try.prog 14 #[.pointer (some ⟨sb, 0, none⟩), .string s, .int .i64 0, .int .i64 (n : Int)] W fun e w' => ∃ p cap, e = .returned (.tuple #[.slice p n cap, .int .i64 0]) ∧ w'.ownsRow W.heap.size 5 1 (.slice p n cap) n (c.map (Value.int .u8)) ∧ Below W.heap.size W w' := by
  have hlen : s.size ≤ maxLen := by have := h.nameLen hn; simpa using this
  obtain ⟨J, left, pend, turn, h1, h2⟩ := h
  rw [hd] at h1
  obtain ⟨f, hf⟩ := h2.has_some (has_iff.2 hn)
  obtain ⟨hfm, hfn⟩ := mem_of_fileOf hf
  have hfc : f.c = c := by rw [h2.con f hfm, hfn, hc]
  obtain ⟨_, l, rr, hs⟩ := fileOf_split hf
  subst hs
  have := read_some h1 hlen hf (at_ := 0) (n := n) (by rw [hfc]; omega) (h2.clen' hfm)
  rw [hfc, List.drop_zero, List.take_of_length_le (by omega)] at this
  exact this

/-- A slice lies in no block that a store writes to. -/
def Off (v : Value) (sb mb : Nat) (fs : List MF) : Prop := ∀ i, v.ownBlock = some i → ¬ own sb mb fs i
theorem Off.step {W W' : World} {v : Value} {sb mb : Nat} {fs fs' : List MF} (h : Off v sb mb fs) (hlt : ∀ i, v.ownBlock = some i → i < W.heap.size) (hs : Step W W' sb mb fs fs') : Off v sb mb fs' := fun i hi ho => by
  rcases hs.own i ho with h1 | h1
  · exact h i hi h1
  · have := hlt i hi; omega
theorem Off.row {W W' : World} {v : Value} {sb mb base n k : Nat} {e : TypeId} {fs fs' : List MF} {xs : List Value} (h : Off v sb mb fs) (ho : W.ownsRow base e k v n xs) (hs : Step W W' sb mb fs fs') : W'.ownsRow base e k v n xs ∧ Off v sb mb fs' :=
  ⟨ownsRow_only ho hs.only h, h.step (fun _ hi => (own_block_lt ho hi).1) hs⟩
theorem Off.new {W W' : World} {v : Value} {sb mb N base n k : Nat} {e : TypeId} {fs : List MF} {r : RC} {xs : List Value} (h : Prg W sb mb fs r N) (hb : W.heap.size ≤ base) (ho : W'.ownsRow base e k v n xs) : Off v sb mb fs := fun i hi hf => by
  have := h.own_lt hf
  have := own_block_base ho hi
  omega
theorem str_cells {W : World} {base n cap k : Nat} {p : Option Addr} {ns : List Nm} (h : W.ownsRow base 9 1 (.slice p n cap) n (ns.map strV)) (hl : ns.length = n) (hk : k < n) : ∃ g, p = some ⟨g, 0, none⟩ ∧ W.cell? ⟨g, k, none⟩ = some (strV (ns[k]!)) := by
  rcases h.2 with ⟨_, h0⟩ | ⟨g, cap', cur, he, _⟩
  · omega
  · simp only [Value.slice.injEq, true_and] at he
    obtain ⟨rfl, rfl⟩ := he
    refine ⟨g, rfl, ?_⟩
    rw [h.cellAt k (by omega), List.getElem?_map, List.getElem?_eq_getElem (by omega), getElem!_pos ns k (by omega)]
    rfl

theorem Try.infoOp : (Try.prog.info? 36).map (fun i => (i.zero, i.size, i.bytes)) = some (some (.agg #[.int .i64 0, .string ⟨#[]⟩, .string ⟨#[]⟩, .int .i64 0, .int .i64 0, .slice none 0 0]), 6, 80) := by kernel_rfl
theorem OpV.far {o : OpV} {W : World} {B sb mb : Nat} {fs : List MF} (h : o.ok W B) (hB : ∀ i, own sb mb fs i → B ≤ i) : o.b ≠ [] → Clear (own sb mb fs) (.slice o.bp o.b.length o.bc) := fun hb i hi ho => by
  have := h.far hb i hi
  have := hB i ho
  omega
theorem Prg.cov_kind {W : World} {sb mb N : Nat} {fs : List MF} {r : RC} (h : Prg W sb mb fs r N) {i : Nat} (hi : Go.Proofs.Ytikpckmlnhcddaa.covs fs i) : ∃ cur, W.heap[i]? = some (.cells cur 5 (0, 0)) := by
  obtain ⟨J, left, pend, turn, h1, _⟩ := h
  obtain ⟨f, hf, hi⟩ := hi
  exact (h1.files f hf).cov_kind hi
theorem Prg.off {W : World} {sb mb N base n k : Nat} {e : TypeId} {fs : List MF} {r : RC} {v : Value} {xs : List Value} (h : Prg W sb mb fs r N) (ho : W.ownsRow base e k v n xs) (h1 : e ≠ 49) (h2 : e ≠ 73) (h3 : e ≠ 5) (h4 : e ≠ 82) : Off v sb mb fs := by
  intro i hi hown
  obtain ⟨J, left, pend, turn, hs, _⟩ := h
  obtain ⟨_, cur, hc⟩ := own_block_lt ho hi
  rcases hown with rfl | rfl | ⟨f, hf, rfl | hb | hb⟩
  · rw [hs.box] at hc; simp at hc; exact h1 hc.2.symm
  · obtain ⟨es, clock, hb, _⟩ := hs.map
    rw [hb] at hc; simp at hc
  · rw [(hs.files f hf).box] at hc; simp at hc; exact h2 hc.2.symm
  · obtain ⟨_, cur', hc'⟩ := own_block_lt (hs.files f hf).con hb
    rw [hc'] at hc; simp at hc; exact h3 hc.2.symm
  · obtain ⟨_, cur', hc'⟩ := own_block_lt (hs.files f hf).pen hb
    rw [hc'] at hc; simp at hc; exact h4 hc.2.symm
theorem Pair.grown {W W' : World} {sb mb tb tm N M B n base : Nat} {fs gs : List MF} {r q : RC} {v : Value} {xs : List Value} (h : Pair W sb mb tb tm fs gs r q N M B) (ho : W.ownsRow base 36 6 v n xs) (h1 : Off v sb mb fs) (h2 : Off v tb tm gs) (hg : W.grownBy W' v.ownBlock) : Pair W' sb mb tb tm fs gs r q N M B := by
  have hF : Only (fun i => v.ownBlock = some i) W W' := Only.of_grown hg (fun k e => e)
  have hc : ∀ {sb mb N : Nat} {fs : List MF} {r : RC}, Prg W sb mb fs r N → ∀ i, covs fs i → ¬ v.ownBlock = some i := fun hp i hi e => by
    obtain ⟨cur, hk⟩ := hp.cov_kind hi
    obtain ⟨_, cur', hk'⟩ := own_block_lt ho e
    rw [hk] at hk'
    simp at hk'
  exact ⟨h.s.only hF (fun i hi e => h1 i e hi) (hc h.s), h.t.only hF (fun i hi e => h2 i e hi) (hc h.t), h.st, h.ts, h.sB, h.tB⟩
theorem op_cells {W : World} {base n cap k : Nat} {p : Option Addr} {os : List OpV} (h : W.ownsRow base 36 6 (.slice p n cap) n (os.flatMap OpV.cells)) (hl : os.length = n) (hk : k < n) : ∃ g, p = some ⟨g, 0, none⟩ ∧ ∀ j, j < 6 → W.cell? ⟨g, k * 6 + j, none⟩ = (os[k]!).cells[j]? := by
  rcases h.2 with ⟨_, h0⟩ | ⟨g, cap', cur, he, _⟩
  · omega
  · simp only [Value.slice.injEq, true_and] at he
    obtain ⟨rfl, rfl⟩ := he
    exact ⟨g, rfl, fun j hj => by rw [h.cellAt (k * 6 + j) (by omega), cellsN_get (c := OpV.cells) (n := 6) (fun _ => rfl) (by omega) hj]⟩
theorem op_one (o : OpV) : ∀ u ∈ o.cells, u.oneCell' = true := by
  intro u hu
  simp only [OpV.cells, List.mem_cons, List.not_mem_nil, or_false] at hu
  rcases hu with rfl | rfl | rfl | rfl | rfl | rfl <;> rfl

set_option maxRecDepth 100000 in
set_option maxHeartbeats 8000000 in
theorem prefix_walk {W : World} {v1 v2 : Value} {os ms : List OpV} {keep torn : Nat} (h1 : Ops W W.heap.size v1 os) (h2 : Ops W W.heap.size v2 ms) (hk : keep < 256) (ht : torn < 256) (hl1 : os.length * 80 ≤ 140737488355328) (hl2 : ms.length * 80 ≤ 140737488355328) :
    Calls Try.prog 3 #[.agg #[v1, v2, .int .u8 keep, .int .u8 torn]] W fun e w' => e = .returned (.bool true) ∧ Below W.heap.size W w' := by
  obtain ⟨p1, cap1, rfl, a1, a2, _⟩ := id h1.form
  obtain ⟨p2, cap2, rfl, a3, a4, _⟩ := id h2.form
  obtain ⟨B, hB⟩ : ∃ B, W.heap.size = B := ⟨_, rfl⟩
  rw [hB] at h1 h2 ⊢
  have H1 := hide h1
  have H2 := hide h2
  clear h1 h2
  go_enter Try.func3, Try.ntmps3
  go_upto_region 1 with fail
  obtain ⟨W0, hW0⟩ : ∃ W0, W0 = W.alloc (.cells #[.slice p1 os.length cap1, .slice p2 ms.length cap2, .int .u8 keep, .int .u8 torn] 24 (0, 0)) := ⟨_, rfl⟩
  rw [← hW0]
  have HB0 : Hid (Below B W W0) := by rw [hW0]; exact hide ((alloc_below W _).mono (by omega))
  have hbx : W0.heap[B]? = some (.cells #[.slice p1 os.length cap1, .slice p2 ms.length cap2, .int .u8 keep, .int .u8 torn] 24 (0, 0)) := by rw [hW0, ← hB]; exact heap_alloc_new _ _
  have ZB0 : B ≤ W0.heap.size := by rw [hW0]; simp; omega
  have k0 : W0.cell? ⟨B, 0, none⟩ = some (.slice p1 os.length cap1) := by simp [World.cell?, hbx]
  have k1 : W0.cell? ⟨B, 1, none⟩ = some (.slice p2 ms.length cap2) := by simp [World.cell?, hbx]
  have k2 : W0.cell? ⟨B, 2, none⟩ = some (.int .u8 keep) := by simp [World.cell?, hbx]
  have k3 : W0.cell? ⟨B, 3, none⟩ = some (.int .u8 torn) := by simp [World.cell?, hbx]
  clear hW0 hbx
  go_region
  have HLV := hide (live_any W0.drew)
  go_wp2_with fail
  refine HLV.out.mono ?_
  rintro _ w1 ⟨rfl, b1⟩
  have HB1 : Hid (Below B W w1) := hide (HB0.out.trans ((below_undrew b1).mono ZB0))
  have Z1 : B ≤ w1.heap.size := Nat.le_trans ZB0 b1.size
  clear b1 HLV k0 k1 k2 k3 HB0
  have HBu := hide (built_any (room := 4096) (H1.out.below HB1.out) Z1 (by omega) (by omega))
  go_wp2_with fail
  refine HBu.out.mono ?_
  rintro _ w2 ⟨sb, mb, rb, fs, R, rfl, t2, _, b2⟩
  have HT2 := hide t2
  have HB2 : Hid (Below B W w2) := hide (HB1.out.trans (b2.mono Z1))
  have Z2 : w1.heap.size ≤ w2.heap.size := b2.size
  clear t2 b2 HBu
  have HBv := hide (built_any (room := 4096) (H1.out.below HB2.out) (by omega) (by omega) (by omega))
  go_wp2_with fail
  refine HBv.out.mono ?_
  rintro _ w3 ⟨tb, tm, rc, gs, Q, rfl, t3, _, b3⟩
  obtain ⟨r0, hr0⟩ : ∃ r0, r0 = buildC ⟨[], [], 4096, false⟩ os := ⟨_, rfl⟩
  have hP := two_pair HT2.out t3 b3 (by omega)
  rw [← hr0] at hP
  have hd0 : r0.down = false := by rw [hr0, build_down]
  have HP : Hid (Pair w3 sb mb tb tm fs gs r0 r0 os.length os.length B) := hide { hP with sB := fun i hi => Nat.le_trans Z1 (hP.sB i hi), tB := fun i hi => Nat.le_trans Z1 (hP.tB i hi) }
  have HB3 : Hid (Below B W w3) := hide (HB2.out.trans (b3.mono (by omega)))
  have Z3 : B ≤ w3.heap.size := by have := b3.size; omega
  clear hP t3 b3 HBv HT2 HB2 Z2 HB1 Z1 hr0
  have HNM := hide (lnames_any HP.out.s)
  go_wp2_with fail
  refine HNM.out.mono ?_
  rintro _ w4 ⟨np, nc, rfl, o4, b4⟩
  obtain ⟨ns, hns⟩ : ∃ ns, ns = r0.L.map CF.name := ⟨_, rfl⟩
  rw [← hns] at o4 ⊢
  have hcnt := HP.out.s.count
  rw [← hns] at hcnt
  obtain ⟨_, _, he4, hq1, hq2⟩ := own_form o4
  simp only [Value.slice.injEq, true_and] at he4
  obtain ⟨rfl, rfl⟩ := he4
  have HP4 := hide (HP.out.fresh b4)
  have HO1 : Hid (Off (.slice np ns.length nc) sb mb fs) := hide (Off.new HP.out.s (Nat.le_refl _) o4)
  have HO2 : Hid (Off (.slice np ns.length nc) tb tm gs) := hide (Off.new HP.out.t (Nat.le_refl _) o4)
  have HR4 := hide (own_base5 (base' := 0) o4 (Nat.zero_le _))
  have HB4 : Hid (Below B W w4) := hide (HB3.out.trans (b4.mono Z3))
  have HNS := hide hns
  have HLN : Hid (∀ n ∈ ns, n.length ≤ maxLen) := hide (fun n hn => HP.out.s.nameLen (by rw [← hns]; exact hn))
  have HLK := hide HP.out.s.link
  clear o4 b4 HNM HP HB3 Z3 hns
  go_wp2_with fail
  go_loopw [59] (fun i wr => ∃ (k : Nat) (fs gs : List MF), k ≤ ns.length ∧ i = .int .i64 (k : Int) ∧ Hid (Pair wr sb mb tb tm fs gs (syncs r0 (ns.take k)) (syncs r0 (ns.take k)) os.length os.length B) ∧ Hid (Off (.slice np ns.length nc) sb mb fs) ∧ Hid (Off (.slice np ns.length nc) tb tm gs) ∧ Hid (wr.ownsRow 0 9 1 (.slice np ns.length nc) ns.length (ns.map strV)) ∧ Hid (Below B W wr) ∧ B ≤ wr.heap.size) (fun i _ => ns.length - (intOf i).toNat)
  case atStart => exact ⟨0, fs, gs, Nat.zero_le _, rfl, HP4, HO1, HO2, HR4, HB4, Nat.le_trans (by omega) HB4.out.size⟩
  case round =>
    clear HP4 HO1 HO2 HR4 HB4
    obtain ⟨k, fs, gs, hk', rfl, HP, HO1, HO2, HR, HB, ZB⟩ := hrel
    by_cases hlt : k < ns.length
    · obtain ⟨g, rfl, d0⟩ := str_cells HR.out rfl hlt
      obtain ⟨nm, hnm⟩ : ∃ nm, ns[k]! = nm := ⟨_, rfl⟩
      rw [hnm] at d0
      unfold strV at d0
      have hnl : (⟨nm.toArray⟩ : ByteArray).size ≤ maxLen := by
        have := HLN.out nm (by rw [← hnm, getElem!_pos ns k hlt]; exact List.getElem_mem _)
        simpa [ByteArray.size] using this
      have HTK : Hid (syncs r0 (ns.take (k + 1)) = (syncs r0 (ns.take k)).sync nm) := by
        refine hide ?_
        rw [List.take_succ_eq_append_getElem hlt, syncs_snoc, ← hnm, getElem!_pos ns k hlt]
      have HS1 := hide (psync HP.out.s (by omega) hnl)
      clear hnm
      go_wp2_with fail
      refine HS1.out.mono ?_
      rintro _ w5 ⟨rfl, fs5, p5, s5⟩
      obtain ⟨q5, e5⟩ := HP.out.left ZB p5 s5
      obtain ⟨m5, n5⟩ := HO1.out.row HR.out s5
      have Z5 : B ≤ w5.heap.size := Nat.le_trans ZB s5.only.size
      have HP5 := hide q5
      have HR5 := hide m5
      have HN5 := hide n5
      have HB5 : Hid (Below B W w5) := hide (HB.out.trans e5)
      have HS2 := hide (psync q5.t (by omega) hnl)
      clear p5 s5 q5 e5 m5 n5 HS1 HP HR HB HO1 d0
      go_wp2_with fail
      refine HS2.out.mono ?_
      rintro _ w6 ⟨rfl, gs6, p6, s6⟩
      obtain ⟨q6, e6⟩ := HP5.out.right Z5 p6 s6
      obtain ⟨m6, n6⟩ := HO2.out.row HR5.out s6
      have HP6 := hide q6
      have HR6 := hide m6
      have HN6 := hide n6
      have HB6 : Hid (Below B W w6) := hide (HB5.out.trans e6)
      have Z6 : B ≤ w6.heap.size := Nat.le_trans Z5 s6.only.size
      clear p6 s6 q6 e6 m6 n6 HS2 HP5 HR5 HB5 HO2
      go_wp2
      refine ⟨⟨k + 1, fs5, gs6, by omega, by go_num, ?_, HN5, HN6, HR6, HB6, Z6⟩, by simp [intOf]; omega⟩
      rw [HTK.out]
      exact HP6
    · obtain rfl : k = ns.length := by omega
      rw [List.take_length] at HP
      go_wp2_with fail
      obtain ⟨rS, hrS⟩ : ∃ rS, rS = syncs r0 ns := ⟨_, rfl⟩
      rw [← hrS] at HP
      have HSP : Hid (rS.P = []) := by
        refine hide ?_
        rw [hrS, HNS.out]
        exact syncs_P _ _ hd0 HLK.out (fun n hn => hn)
      have HSN : Hid (rS.L.map CF.name = ns) := by rw [hrS]; exact hide (by rw [syncs_names, ← HNS.out])
      have hSD : rS.down = false := by rw [hrS, syncs_down]; exact hd0
      obtain ⟨i0, hI0, hz0, hz1, hz2⟩ := info_parts Try.infoOp
      clear hrS HLK HNS HO1 HO2 HR hd0 hlt HLN
      go_loopw [72, 13] (fun i wv wr => ∃ (k : Nat) (fs : List MF) (w : List OpV) (r : RC) (q : Option Addr) (cq : Nat), k ≤ ms.length ∧ w.length ≤ k ∧ w.length ≤ cq ∧ cq ≤ 9223372036854775807 ∧ i = .int .i64 (k : Int) ∧ wv = .slice q w.length cq ∧ Hid (Pair wr sb mb tb tm fs gs r rS (os.length + k) os.length B) ∧ Hid (Wrote rS w r) ∧ Hid (wr.ownsRow B 36 6 (.slice q w.length cq) w.length (w.flatMap OpV.cells)) ∧ Hid (Off (.slice q w.length cq) sb mb fs) ∧ Hid (Off (.slice q w.length cq) tb tm gs) ∧ Hid (∀ o ∈ w, o ∈ ms) ∧ Hid (Below B W wr) ∧ B ≤ wr.heap.size) (fun i _ _ => ms.length - (intOf i).toNat)
      case atStart => exact ⟨0, fs, [], rS, none, 0, Nat.zero_le _, Nat.le_refl _, Nat.le_refl _, by decide, rfl, rfl, HP, hide (Wrote.nil HSP.out), hide (World.ownsRow_nil _ _ _ _), hide (fun i hi => by simp [Value.ownBlock] at hi), hide (fun i hi => by simp [Value.ownBlock] at hi), hide (by simp), HB, ZB⟩
      case round =>
        clear HP HB ZB
        obtain ⟨k, fs, w, r, q, cq, hk', hwk, hq3, hq4, rfl, rfl, HP, HW, HR, HO1, HO2, HWM, HB, ZB⟩ := hrel
        by_cases hlt : k < ms.length
        · have hF := H2.out.below HB.out
          obtain ⟨_, _, he, _, _, h3⟩ := hF.form
          simp only [Value.slice.injEq, true_and] at he
          obtain ⟨rfl, rfl⟩ := he
          obtain ⟨g, o, rfl, hg, hc⟩ := h3 k hlt
          obtain ⟨x, hx⟩ : ∃ x, ms[k]! = x := ⟨_, rfl⟩
          have hxm : x ∈ ms := by rw [← hx, getElem!_pos ms k hlt]; exact List.getElem_mem _
          have hok : x.ok wr B := hF.ok x hxm
          rw [hx] at hc
          have d0 : wr.cell? ⟨g, o + k * 6, none⟩ = some (.int .i64 x.d) := hc 0 (by omega)
          have d1 : wr.cell? ⟨g, o + k * 6 + 1, none⟩ = some (.string x.s) := hc 1 (by omega)
          have d2 : wr.cell? ⟨g, o + k * 6 + 2, none⟩ = some (.string x.t) := hc 2 (by omega)
          have d3 : wr.cell? ⟨g, o + k * 6 + 3, none⟩ = some (.int .i64 x.k) := hc 3 (by omega)
          have d4 : wr.cell? ⟨g, o + k * 6 + 4, none⟩ = some (.int .i64 x.m) := hc 4 (by omega)
          have d5 : wr.cell? ⟨g, o + k * 6 + 5, none⟩ = some (.slice x.bp x.b.length x.bc) := hc 5 (by omega)
          have HXM := hide hxm
          have HOK := hide hok
          clear hF h3 hc hx hxm hok
          have hb1 := alloc_below wr (.cells #[.int .i64 x.d, .string x.s, .string x.t, .int .i64 x.k, .int .i64 x.m, .slice x.bp x.b.length x.bc] 36 (0, 0))
          by_cases hd1 : x.d = 1
          · have e1 : (x.d == 1) = true := by simp [hd1]
            have HD1 := hide hd1
            clear hd1
            go_upto_region 18 with fail
            obtain ⟨wx, hwx⟩ : ∃ wx, wx = wr.alloc (.cells #[.int .i64 x.d, .string x.s, .string x.t, .int .i64 x.k, .int .i64 x.m, .slice x.bp x.b.length x.bc] 36 (0, 0)) := ⟨_, rfl⟩
            rw [← hwx] at hb1
            rw [← hwx]
            have hbx : wx.heap[wr.heap.size]? = some (.cells #[.int .i64 x.d, .string x.s, .string x.t, .int .i64 x.k, .int .i64 x.m, .slice x.bp x.b.length x.bc] 36 (0, 0)) := by rw [hwx]; exact heap_alloc_new _ _
            obtain ⟨xB, hxB⟩ : ∃ xB, xB = wr.heap.size := ⟨_, rfl⟩
            rw [← hxB]
            rw [← hxB] at hbx
            have hn1 : ¬ own sb mb fs xB := fun e => by have := HP.out.s.own_lt e; omega
            have ZX : B ≤ wx.heap.size := Nat.le_trans ZB hb1.size
            have HPx := hide (HP.out.fresh hb1)
            have HRx := hide (ownsRow_later HR.out hb1)
            have HBx : Hid (Below B W wx) := hide (HB.out.trans (hb1.mono ZB))
            have hokx : x.ok wx B := HOK.out.below (hb1.mono ZB)
            have HWR := hide (pwrite HPx.out.s (by omega) (by rw [HW.out.is]; simp [withP]; omega) hokx.ls (k := x.k) hokx.row (OpV.far hokx HPx.out.sB) hokx.u8)
            have hzx : wr.heap.size ≤ wx.heap.size := hb1.size
            clear hwx hb1 HP HR HB d0 d1 d2 d3 d4 d5 hokx HOK hxB hzx
            have x0 : wx.cell? ⟨xB, 0, none⟩ = some (.int .i64 x.d) := by simp [World.cell?, hbx]
            have x1 : wx.cell? ⟨xB, 1, none⟩ = some (.string x.s) := by simp [World.cell?, hbx]
            have x3 : wx.cell? ⟨xB, 3, none⟩ = some (.int .i64 x.k) := by simp [World.cell?, hbx]
            have x5 : wx.cell? ⟨xB, 5, none⟩ = some (.slice x.bp x.b.length x.bc) := by simp [World.cell?, hbx]
            have HBX := hide hbx
            clear hbx
            go_wp2_with fail
            refine HWR.out.mono ?_
            rintro _ w5 ⟨rfl, fs5, p5, s5⟩
            obtain ⟨q5, e5⟩ := HPx.out.left ZX p5 s5
            obtain ⟨m5, n5⟩ := HO1.out.row HRx.out s5
            have HBY : Hid (w5.heap[xB]? = some (.cells #[.int .i64 x.d, .string x.s, .string x.t, .int .i64 x.k, .int .i64 x.m, .slice x.bp x.b.length x.bc] 36 (0, 0))) := hide (s5.only.obj HBX.out hn1)
            have y5 : w5.cell? ⟨xB, 5, none⟩ = some (.slice x.bp x.b.length x.bc) := by simp [World.cell?, HBY.out]
            have Z5 : B ≤ w5.heap.size := Nat.le_trans ZX s5.only.size
            have HP5 := hide q5
            have HR5 := hide m5
            have HN5 := hide n5
            have HB5 : Hid (Below B W w5) := hide (HBx.out.trans e5)
            clear p5 s5 q5 e5 m5 n5 HWR HPx HRx HBx HO1 x0 x1 x3 x5 HBX
            by_cases hE : r.writeE x.s.data.toList x.k x.b = 0
            · have eE : (r.writeE x.s.data.toList x.k x.b == 0) = true := by rw [hE]; rfl
              by_cases hbe : x.b = []
              · have ebl : x.b.length = 0 := by rw [hbe]; rfl
                have HWn : Hid (Wrote rS w (r.write x.s.data.toList x.k x.b)) := hide (HW.out.skip (fun hc => hc.2 hbe))
                clear hE hbe
                go_wp2
                refine ⟨⟨k + 1, fs5, w, _, q, cq, by omega, by omega, hq3, hq4, by go_num, rfl, hide { HP5.out with s := HP5.out.s.up_N (by omega) }, HWn, HR5, HN5, HO2, HWM, HB5, Z5⟩, by simp [intOf]; omega⟩
              · have ebl : 0 < x.b.length := List.length_pos_iff.2 hbe
                have HWn : Hid (Wrote rS (w ++ [x]) (r.write x.s.data.toList x.k x.b)) := hide (HW.out.put hE hbe HD1.out)
                have y0 : w5.cell? ⟨xB, 0, none⟩ = some (.int .i64 x.d) := by simp [World.cell?, HBY.out]
                have y1 : w5.cell? ⟨xB, 1, none⟩ = some (.string x.s) := by simp [World.cell?, HBY.out]
                have y2 : w5.cell? ⟨xB, 2, none⟩ = some (.string x.t) := by simp [World.cell?, HBY.out]
                have y3 : w5.cell? ⟨xB, 3, none⟩ = some (.int .i64 x.k) := by simp [World.cell?, HBY.out]
                have y4 : w5.cell? ⟨xB, 4, none⟩ = some (.int .i64 x.m) := by simp [World.cell?, HBY.out]
                have hb6 := alloc_below w5 (.cells #[.int .i64 x.d, .string x.s, .string x.t, .int .i64 x.k, .int .i64 x.m, .slice x.bp x.b.length x.bc] 36 (0, 0))
                have HR6 := hide (ownsRow_later HR5.out hb6)
                have HP6 := hide (HP5.out.fresh hb6)
                have HB6 : Hid (Below B W (w5.alloc (.cells #[.int .i64 x.d, .string x.s, .string x.t, .int .i64 x.k, .int .i64 x.m, .slice x.bp x.b.length x.bc] 36 (0, 0)))) := hide (HB5.out.trans (hb6.mono Z5))
                have HNW : Hid (Seg (w5.alloc (.cells #[.int .i64 x.d, .string x.s, .string x.t, .int .i64 x.k, .int .i64 x.m, .slice x.bp x.b.length x.bc] 36 (0, 0))) 6 (.slice (some ⟨w5.heap.size, 0, none⟩) 1 1) 1 [.int .i64 x.d, .string x.s, .string x.t, .int .i64 x.k, .int .i64 x.m, .slice x.bp x.b.length x.bc]) := hide (Seg.news (heap_alloc_new _ _) (op_one x) rfl (by decide) (by decide))
                have HK5 : Hid (w.length + 1 ≤ maxLen) := by show _ ≤ _; unfold maxLen; omega
                have HK6 : Hid ((w.length + 1) * 80 ≤ 140737488355328) := by show _ ≤ _; omega
                clear hb6 hE hbe HR5 HP5 HB5
                go_wp2_with (at_builtin; refine append_cells _ rfl (.tmp 96) (.tmp 98) 22 rfl B 36 i0 (.agg #[.int .i64 0, .string ⟨#[]⟩, .string ⟨#[]⟩, .int .i64 0, .int .i64 0, .slice none 0 0]) 6 80 Try.underlying22 hI0 hz0 hz1 hz2 rfl (by decide) (.slice q w.length cq) w.length _ rfl HR6.out (.slice (some ⟨w5.heap.size, 0, none⟩) 1 1) 1 _ rfl HNW.out HK5.out HK6.out (Nat.le_trans Z5 (by simp)) ?_)
                intro q7 c7 w7 o7 g7
                obtain ⟨_, _, he7, hc7, hc8⟩ := own_form o7
                simp only [Value.slice.injEq, true_and] at he7
                obtain ⟨rfl, rfl⟩ := he7
                have HP7 := hide (HP6.out.grown HR6.out HN5.out HO2.out g7)
                have HR7 : Hid (w7.ownsRow B 36 6 (.slice q7 (w ++ [x]).length c7) (w ++ [x]).length ((w ++ [x]).flatMap OpV.cells)) := by
                  rw [List.length_append, List.flatMap_append]
                  exact hide (by simpa [OpV.cells] using o7)
                have HB7 : Hid (Below B W w7) := hide (HB6.out.grown g7 (Nat.le_trans Z5 (by simp)) (fun i hi => own_block_base HR6.out hi))
                have Z7 : B ≤ w7.heap.size := Nat.le_trans Z5 (Nat.le_trans (by simp) g7.size)
                clear o7 g7 HP6 HR6 HB6 HNW HBY y0 y1 y2 y3 y4 y5 HN5 HO2
                go_wp2
                refine ⟨⟨k + 1, fs5, w ++ [x], _, q7, c7, by omega, by simp; omega, by simp; omega, hc8, by go_num, by simp, hide { HP7.out with s := HP7.out.s.up_N (by omega) }, HWn, HR7, hide (HP7.out.s.off HR7.out (by decide) (by decide) (by decide) (by decide)), hide (HP7.out.t.off HR7.out (by decide) (by decide) (by decide) (by decide)), hide ?_, HB7, Z7⟩, by simp [intOf]; omega⟩
                intro y hy
                simp only [List.mem_append, List.mem_singleton] at hy
                rcases hy with hy | rfl
                · exact HWM.out y hy
                · exact HXM.out
            · have eE : (r.writeE x.s.data.toList x.k x.b == 0) = false := by simpa using hE
              have HWn : Hid (Wrote rS w (r.write x.s.data.toList x.k x.b)) := hide (HW.out.skip (fun hc => hE hc.1))
              clear hE
              go_wp2
              refine ⟨⟨k + 1, fs5, w, _, q, cq, by omega, by omega, hq3, hq4, by go_num, rfl, hide { HP5.out with s := HP5.out.s.up_N (by omega) }, HWn, HR5, HN5, HO2, HWM, HB5, Z5⟩, by simp [intOf]; omega⟩
          · have e1 : (x.d == 1) = false := by simpa using hd1
            have HPn := hide ((HP.out.fresh hb1))
            have HRn := hide (ownsRow_later HR.out hb1)
            have HBn : Hid (Below B W (wr.alloc (.cells #[.int .i64 x.d, .string x.s, .string x.t, .int .i64 x.k, .int .i64 x.m, .slice x.bp x.b.length x.bc] 36 (0, 0)))) := hide (HB.out.trans (hb1.mono ZB))
            clear HP HR HB hb1 hd1
            go_wp2
            refine ⟨⟨k + 1, fs, w, r, q, cq, by omega, by omega, hq3, hq4, by go_num, rfl, hide { HPn.out with s := HPn.out.s.up_N (by omega) }, HW, HRn, HO1, HO2, HWM, HBn, by simp; omega⟩, by simp [intOf]; omega⟩
        · obtain rfl : k = ms.length := by omega
          have HPl : Hid (r.P.length = w.length) := hide (by rw [HW.out.is]; simp [withP])
          have hrd : r.down = false := by rw [HW.out.is]; exact hSD
          have HPD := hide (ppending HP.out.s)
          rw [HPl.out] at HPD
          obtain ⟨n, hn⟩ : ∃ n : Nat, (keep : Int) % ((w.length : Int) + 1) = (n : Int) := ⟨keep % (w.length + 1), by simp⟩
          have hnl : n ≤ w.length := by
            have := Int.emod_lt_of_pos (keep : Int) (show 0 < (w.length : Int) + 1 by omega)
            omega
          have HCR := hide (pcrash HP.out.s (by rw [HPl.out]; omega) (keep := (n : Int)) (torn := (torn : Int)) (by omega) (by omega) (by omega) (by omega))
          obtain ⟨u1, u2, u3⟩ := crash_up hrd (k := (n : Int)) (torn := (torn : Int))
          rw [u1] at HCR
          go_wp2_with fail
          refine HPD.out.mono ?_
          rintro _ wr ⟨rfl, rfl⟩
          go_wp2_with fail
          refine HCR.out.mono ?_
          rintro _ w5 ⟨rfl, fs5, p5, s5⟩
          obtain ⟨q5, e5⟩ := HP.out.left ZB p5 s5
          obtain ⟨m5, n5⟩ := HO1.out.row HR.out s5
          have Z5 : B ≤ w5.heap.size := Nat.le_trans ZB s5.only.size
          have HP5 := hide q5
          have HR5 := hide m5
          have HB5 : Hid (Below B W w5) := hide (HB.out.trans e5)
          have HST := hide (pstart q5.s)
          rw [u2] at HST
          clear p5 s5 q5 e5 m5 n5 HCR HP HR HB HO1 HO2 ZB HPD
          go_wp2_with fail
          refine HST.out.mono ?_
          rintro _ w6 ⟨rfl, fs6, p6, s6⟩
          obtain ⟨q6, e6⟩ := HP5.out.left Z5 p6 s6
          obtain ⟨m6, n6⟩ := (HP5.out.s.off HR5.out (by decide) (by decide) (by decide) (by decide)).row HR5.out s6
          have Z6 : B ≤ w6.heap.size := Nat.le_trans Z5 s6.only.size
          have HR6 := hide m6
          have HB6 : Hid (Below B W w6) := hide (HB5.out.trans e6)
          obtain ⟨rF, hrF⟩ : ∃ rF, rF = (r.crash (n : Int) (torn : Int)).start := ⟨_, rfl⟩
          rw [← hrF] at q6
          have hFD : rF.down = false := by rw [hrF]; exact u3
          have HFN : Hid (rF.L.map CF.name = ns) := by
            rw [hrF, crash_names]
            have : r.L = rS.L := by rw [HW.out.is]; rfl
            rw [this]
            exact HSN
          have HFA : Hid (∀ m ∈ ns, rF.all m = allB (base rS.L) (kept (w.map OpV.cp) n (torn : Int)) m) := by
            refine hide (fun m hm => ?_)
            have e1 : r.L = rS.L := by rw [HW.out.is]; rfl
            have e2 : r.P = w.map OpV.cp := by rw [HW.out.is]; rfl
            rw [hrF, crash_all hrd (by rw [HPl.out]; exact hnl) (by rw [e1, HSN.out]; exact hm), e1, e2]
          have HP6 : Hid (Pair w6 sb mb tb tm fs6 gs rF (withP rS (some_ ((kept (w.map OpV.cp) n (torn : Int)).take 0))) (os.length + ms.length) (os.length + 0) B) := by
            have e0 : withP rS (some_ ((kept (w.map OpV.cp) n (torn : Int)).take 0)) = rS := by
              have := HSP.out
              cases rS
              simp only at this
              subst this
              rfl
            rw [e0]
            exact hide q6
          clear p6 s6 q6 e6 m6 n6 HST HP5 HR5 HB5 Z5 u1 u2 u3 hrF HPl hrd
          go_wp2_with fail
          go_loopw [125] (fun i wr => ∃ (k : Nat) (gs : List MF), k ≤ w.length ∧ i = .int .i64 (k : Int) ∧ Hid (Pair wr sb mb tb tm fs6 gs rF (withP rS (some_ ((kept (w.map OpV.cp) n (torn : Int)).take k))) (os.length + ms.length) (os.length + k) B) ∧ Hid (wr.ownsRow B 36 6 (.slice q w.length cq) w.length (w.flatMap OpV.cells)) ∧ Hid (Below B W wr) ∧ B ≤ wr.heap.size) (fun i _ => w.length - (intOf i).toNat)
          case atStart => exact ⟨0, gs, Nat.zero_le _, rfl, HP6, HR6, HB6, Z6⟩
          case round =>
            clear HP6 HR6 HB6 Z6
            obtain ⟨k, gs, hk2, rfl, HP, HR, HB, ZB⟩ := hrel
            by_cases hlt : k < w.length
            · obtain ⟨g, rfl, hc⟩ := op_cells HR.out rfl hlt
              obtain ⟨x, hx⟩ : ∃ x, w[k]! = x := ⟨_, rfl⟩
              rw [hx] at hc
              have d0 : wr.cell? ⟨g, k * 6, none⟩ = some (.int .i64 x.d) := hc 0 (by omega)
              have d1 : wr.cell? ⟨g, k * 6 + 1, none⟩ = some (.string x.s) := hc 1 (by omega)
              have d2 : wr.cell? ⟨g, k * 6 + 2, none⟩ = some (.string x.t) := hc 2 (by omega)
              have d3 : wr.cell? ⟨g, k * 6 + 3, none⟩ = some (.int .i64 x.k) := hc 3 (by omega)
              have d4 : wr.cell? ⟨g, k * 6 + 4, none⟩ = some (.int .i64 x.m) := hc 4 (by omega)
              have d5 : wr.cell? ⟨g, k * 6 + 5, none⟩ = some (.slice x.bp x.b.length x.bc) := hc 5 (by omega)
              have hxm : x ∈ w := by rw [← hx, getElem!_pos w k hlt]; exact List.getElem_mem _
              have HOK : Hid (x.ok wr B) := hide ((H2.out.ok x (HWM.out x hxm)).below HB.out)
              have hxc : x.b.length ≤ x.bc ∧ x.bc ≤ 9223372036854775807 := by
                obtain ⟨_, _, he, c1, c2, _⟩ := HOK.out.row
                simp only [Value.slice.injEq, true_and] at he
                obtain ⟨_, rfl⟩ := he
                exact ⟨c1, c2⟩
              have hb1 := alloc_below wr (.cells #[.int .i64 x.d, .string x.s, .string x.t, .int .i64 x.k, .int .i64 x.m, .slice x.bp x.b.length x.bc] 36 (0, 0))
              clear hc hxm
              by_cases hgt : n < k
              · have e1 : ((k : Int) == (n : Int)) = false := by simp; omega
                have e2 : decide ((k : Int) ≤ (n : Int)) = false := decide_eq_false (by omega)
                have HPn := hide (HP.out.fresh hb1)
                have HRn := hide (ownsRow_later HR.out hb1)
                have HBn : Hid (Below B W (wr.alloc (.cells #[.int .i64 x.d, .string x.s, .string x.t, .int .i64 x.k, .int .i64 x.m, .slice x.bp x.b.length x.bc] 36 (0, 0)))) := hide (HB.out.trans (hb1.mono ZB))
                clear HP HR HB hb1 hx HOK
                go_wp2
                refine ⟨⟨k + 1, gs, by omega, by go_num, ?_, HRn, HBn, by simp; omega⟩, by simp [intOf]; omega⟩
                rw [kept_stay hgt]
                exact hide { HPn.out with t := HPn.out.t.up_N (by omega) }
              · obtain ⟨m', hm0, hm1, hm2, hm3⟩ : ∃ m' : Nat, m' ≤ x.b.length ∧ (k ≠ n → m' = x.b.length) ∧ (k = n → m' = (mag (torn : Int)).toNat % (x.b.length + 1)) ∧ (k = n → (torn : Int) % ((x.b.length : Int) + 1) = (m' : Int)) := by
                  by_cases hkn : k = n
                  · refine ⟨(mag (torn : Int)).toNat % (x.b.length + 1), ?_, fun h => absurd hkn h, fun _ => rfl, fun _ => ?_⟩
                    · have := Nat.mod_lt (mag (torn : Int)).toNat (show 0 < x.b.length + 1 by omega)
                      omega
                    · exact mag_mod (by unfold mag; rw [if_neg (by omega), if_neg (by omega)])
                  · exact ⟨x.b.length, Nat.le_refl _, fun _ => rfl, fun h => absurd h hkn, fun h => absurd h hkn⟩
                have hxx : w[k] = x := by rw [← hx, getElem!_pos w k hlt]
                have HAG := hide (HW.out.again (torn : Int) hnl hlt (by omega) (m := m') (by rw [hxx]; exact hm1) (by rw [hxx]; exact hm2))
                rw [hxx] at HAG
                have hbl := write_len HP.out.t HAG.out.2.2
                go_upto_if 134 with fail
                obtain ⟨wx, hwx⟩ : ∃ wx, wx = wr.alloc (.cells #[.int .i64 x.d, .string x.s, .string x.t, .int .i64 x.k, .int .i64 x.m, .slice x.bp x.b.length x.bc] 36 (0, 0)) := ⟨_, rfl⟩
                rw [← hwx] at hb1
                rw [← hwx]
                have hbx : wx.heap[wr.heap.size]? = some (.cells #[.int .i64 x.d, .string x.s, .string x.t, .int .i64 x.k, .int .i64 x.m, .slice x.bp x.b.length x.bc] 36 (0, 0)) := by rw [hwx]; exact heap_alloc_new _ _
                obtain ⟨xB, hxB⟩ : ∃ xB, xB = wr.heap.size := ⟨_, rfl⟩
                rw [← hxB]
                rw [← hxB] at hbx
                have ZX : B ≤ wx.heap.size := Nat.le_trans ZB hb1.size
                have HPx := hide (HP.out.fresh hb1)
                have HRx := hide (ownsRow_later HR.out hb1)
                have HBx : Hid (Below B W wx) := hide (HB.out.trans (hb1.mono ZB))
                have hokx : x.ok wx B := HOK.out.below (hb1.mono ZB)
                have hE0 := HAG.out.1
                have HWR := hide (pwrite HPx.out.t (by omega) (Nat.lt_of_le_of_lt (List.length_filter_le _ _) (Nat.lt_of_le_of_lt (List.length_take_le _ _) (by omega))) hokx.ls (k := x.k) (hokx.row.take hm0) (fun hbe i hi ho => by
                  have h1 : x.b ≠ [] := by rintro h0; rw [h0] at hbe; simp at hbe
                  have h2 := hokx.far h1 i ((ownB _ _ _ _ _).trans hi)
                  have h3 := HPx.out.tB i ho
                  omega) (fun y hy => hokx.u8 y (List.mem_of_mem_take hy)))
                rw [hE0, HAG.out.2.1] at HWR
                have x1 : wx.cell? ⟨xB, 1, none⟩ = some (.string x.s) := by simp [World.cell?, hbx]
                have x3 : wx.cell? ⟨xB, 3, none⟩ = some (.int .i64 x.k) := by simp [World.cell?, hbx]
                clear hwx hb1 HP HR HB d0 d1 d2 d3 d4 d5 hokx HOK hxB hbx hE0 HAG hxx hx
                go_cut [19, 125] from 126 to 156 (fun s19 s125 wc => s19 = .slice x.bp m' x.bc ∧ s125 = .int .i64 (k : Int) ∧ wc = wx)
                case first =>
                  by_cases hkn : k = n
                  · have e1 : ((k : Int) == (n : Int)) = true := by simp [hkn]
                    have hm4 := hm3 hkn
                    clear hm1 hm2 hm3 hkn
                    go_wp2
                    go_meet
                    case rel => exact ⟨rfl, rfl, rfl⟩
                  · have e1 : ((k : Int) == (n : Int)) = false := by simp; omega
                    have hm4 := hm1 hkn
                    clear hm1 hm2 hm3
                    go_wp2
                    go_meet
                    case rel => exact ⟨by rw [hm4], rfl, rfl⟩
                case rest =>
                  obtain ⟨rfl, rfl, rfl⟩ := hcut
                  rename World => wx
                  have e2 : decide ((k : Int) ≤ (n : Int)) = true := decide_eq_true (by omega)
                  clear hm1 hm2 hm3
                  go_wp2_with fail
                  refine HWR.out.mono ?_
                  rintro _ w7 ⟨rfl, gs7, p7, s7⟩
                  obtain ⟨q7, e7⟩ := HPx.out.right ZX p7 s7
                  obtain ⟨m7, n7⟩ := (HPx.out.t.off HRx.out (by decide) (by decide) (by decide) (by decide)).row HRx.out s7
                  have Z7 : B ≤ w7.heap.size := Nat.le_trans ZX s7.only.size
                  have HP7 := hide q7
                  have HR7 := hide m7
                  have HB7 : Hid (Below B W w7) := hide (HBx.out.trans e7)
                  clear p7 s7 q7 e7 m7 n7 HWR HPx HRx HBx x1 x3
                  go_wp2
                  exact ⟨⟨k + 1, gs7, by omega, by go_num, HP7, HR7, HB7, Z7⟩, by simp [intOf]; omega⟩
            · obtain rfl : k = w.length := by omega
              have HTA : Hid (∀ m ∈ ns, (withP rS (some_ ((kept (w.map OpV.cp) n (torn : Int)).take w.length))).all m = rF.all m) := by
                refine hide (fun m hm => ?_)
                rw [HFA.out m hm, all_some, List.take_of_length_le (Nat.le_trans kept_len' (by simp))]
              obtain ⟨qF, hqF⟩ : ∃ qF, qF = withP rS (some_ ((kept (w.map OpV.cp) n (torn : Int)).take w.length)) := ⟨_, rfl⟩
              have hQD : qF.down = false := by rw [hqF]; exact hSD
              have HQN : Hid (qF.L.map CF.name = ns) := by rw [hqF]; exact HSN
              rw [← hqF] at HP HTA
              have HNM := hide (lnames_any HP.out.s)
              rw [HFN.out] at HNM
              clear HW HR HWM HFA HSN HSP hqF hSD H1 H2
              go_wp2_with fail
              refine HNM.out.mono ?_
              rintro _ w8 ⟨np8, nc8, rfl, o8, b8⟩
              obtain ⟨_, _, he8, hq5, hq6⟩ := own_form o8
              simp only [Value.slice.injEq, true_and] at he8
              obtain ⟨rfl, rfl⟩ := he8
              have HP8 := hide (HP.out.fresh b8)
              have HR8 := hide (own_base5 (base' := 0) o8 (Nat.zero_le _))
              have HB8 : Hid (Below B W w8) := hide (HB.out.trans (b8.mono ZB))
              have Z8 : B ≤ w8.heap.size := Nat.le_trans ZB b8.size
              clear o8 b8 HNM HP HB ZB
              go_wp2_with fail
              go_loopw [160] (fun i wr => ∃ (k : Nat), k ≤ ns.length ∧ i = .int .i64 (k : Int) ∧ Hid (Below w8.heap.size w8 wr)) (fun i _ => ns.length - (intOf i).toNat)
              case atStart => exact ⟨0, Nat.zero_le _, rfl, hide (Below.refl _ _)⟩
              case round =>
                obtain ⟨k, hk3, rfl, HBk⟩ := hrel
                by_cases hlt4 : k < ns.length
                · have hrw := ownsRow_later HR8.out HBk.out
                  obtain ⟨g, rfl, d0⟩ := str_cells hrw rfl hlt4
                  obtain ⟨nm, hnm⟩ : ∃ nm, ns[k]! = nm := ⟨_, rfl⟩
                  have hmem : nm ∈ ns := by rw [← hnm, getElem!_pos ns k hlt4]; exact List.getElem_mem _
                  rw [hnm] at d0
                  unfold strV at d0
                  obtain ⟨c, hc⟩ : ∃ c, rF.all nm = c := ⟨_, rfl⟩
                  obtain ⟨L, hL⟩ : ∃ L, c.length = L := ⟨_, rfl⟩
                  have hcq : qF.all nm = c := by rw [HTA.out nm hmem, hc]
                  have HPk := hide (HP8.out.fresh HBk.out)
                  have hm1 : (⟨nm.toArray⟩ : ByteArray).data.toList ∈ rF.L.map CF.name := by rw [HFN.out]; simpa using hmem
                  have hm2 : (⟨nm.toArray⟩ : ByteArray).data.toList ∈ qF.L.map CF.name := by rw [HQN.out]; simpa using hmem
                  have hcu : U8 c := by
                    obtain ⟨J, left, pend, turn, _, h2⟩ := HPk.out.s
                    rw [← hc]
                    exact h2.u8 nm
                  have hcl : c.length ≤ 4194304 := by
                    obtain ⟨J, left, pend, turn, _, h2⟩ := HPk.out.s
                    obtain ⟨f, hf⟩ := h2.has_some (has_iff.2 hm1)
                    obtain ⟨hfm, hfn⟩ := mem_of_fileOf hf
                    have := h2.clen' hfm
                    rw [h2.con f hfm, hfn] at this
                    simpa [hc] using this
                  have HS1 := hide (psize HPk.out.s hFD hm1 (n := L) (by simpa [hc] using hL))
                  have HS2 := hide (psize HPk.out.t hQD hm2 (n := L) (by simpa [hcq] using hL))
                  have HS3 := hide (pread HPk.out.s hFD hm1 (c := c) (n := L) (by simpa using hc) hL)
                  have HCU := hide hcu
                  have HLL := hide hL
                  have HM2 := hide hm2
                  have HCQ := hide hcq
                  clear hrw hnm hmem hc hcq hm1 hm2 hcu hL
                  go_wp2_with fail
                  refine HS1.out.mono ?_
                  rintro _ wr ⟨rfl, rfl⟩
                  go_wp2_with fail
                  refine HS2.out.mono ?_
                  rintro _ wr ⟨rfl, rfl⟩
                  go_wp2_with fail
                  refine HS3.out.mono ?_
                  rintro _ w9 ⟨p9, c9, rfl, o9, b9⟩
                  have HS4 := hide (pread (s := ⟨nm.toArray⟩) (HPk.out.fresh b9).t hQD (by simpa using HM2.out) (c := c) (n := L) (by simpa using HCQ.out) HLL.out)
                  have HO9 := hide o9
                  have HB9 : Hid (Below w8.heap.size w8 w9) := hide (HBk.out.trans (b9.mono HBk.out.size))
                  clear o9 b9 HS1 HS2 HS3 HPk HBk
                  go_wp2_with fail
                  refine HS4.out.mono ?_
                  rintro _ wA ⟨pA, cA, rfl, oA, bA⟩
                  have HRA : Hid (Row .u8 wA (.slice p9 L c9) c) := by
                    have := own_row (by rw [HLL.out]; exact ownsRow_later HO9.out bA : wA.ownsRow _ 5 1 (.slice p9 L c9) c.length (c.map (Value.int .u8)))
                    exact hide this
                  have HRB : Hid (Row .u8 wA (.slice pA L cA) c) := by
                    have := own_row (by rw [HLL.out]; exact oA : wA.ownsRow _ 5 1 (.slice pA L cA) c.length (c.map (Value.int .u8)))
                    exact hide this
                  have HBA : Hid (Below w8.heap.size w8 wA) := hide (HB9.out.trans (bA.mono HB9.out.size))
                  have HEQ := hide (equal_any HRA.out HRB.out HCU.out HCU.out)
                  clear oA bA HS4 HO9 HB9 HRA HRB d0
                  go_wp2_with fail
                  refine HEQ.out.mono ?_
                  rintro _ wB ⟨rfl, rfl⟩
                  go_wp2
                  exact ⟨⟨k + 1, by omega, by go_num, HBA⟩, by simp [intOf]; omega⟩
                · obtain rfl : k = ns.length := by omega
                  go_wp2
                  go_ret
                  exact ⟨rfl, HB8.out.trans (HBk.out.mono Z8)⟩
end Go.Proofs.Ytikpckmlnhcddaa
