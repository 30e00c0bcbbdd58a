/-
  The program's States of a graph that may be. The conditions: as for results.
-/
import Derived.Test.YtbcllgddogghbaaRfa
namespace Go.Proofs.Ytbcllgddogghbaa
open Go.RowKit Go.Shelf

theorem Try.infoTask : (Try.prog.info? 59).map (fun i => (i.zero, i.size, i.bytes)) = some (some (.agg #[.slice none 0 0, .int .i64 0, .slice none 0 0]), 3, 56) := by kernel_rfl
def RV.task (x : RV) : List Value := [x.kv, .int .i64 x.turn, x.bv]
theorem RV.tlen (x : RV) : x.task.length = 3 := rfl
theorem made_task : ∀ n, (madeCells (Value.agg #[.slice none 0 0, .int .i64 0, .slice none 0 0]).cells (n * 3)).toList = (List.replicate n (default : RV)).flatMap RV.task := by
  intro n
  apply List.ext_getElem?
  intro i
  by_cases hi : i < n * 3
  · have h1 : i = (i / 3) * 3 + i % 3 := by omega
    have h4 : i % 3 < 3 := Nat.mod_lt _ (by decide)
    have h5 : i / 3 < n := by omega
    have h2 := flat_get (cells := RV.task) (List.replicate n (default : RV)) (fun o _ => o.tlen) (i / 3) (i % 3) (by simpa using h5) h4
    rw [← h1, getElem!_pos _ (i / 3) (by simpa using h5), List.getElem_replicate] at h2
    rw [h2]
    rw [List.getElem?_eq_getElem (by simp [size_madeCells]; exact hi)]
    simp [madeCells, Value.cells]
    rcases (by omega : i % 3 = 0 ∨ i % 3 = 1 ∨ i % 3 = 2) with e | e | e <;> rw [e] <;> rfl
  · rw [List.getElem?_eq_none (by simp [size_madeCells]; omega), List.getElem?_eq_none (by rw [flat_len (size := 3) _ (fun o _ => o.tlen)]; simp; omega)]
def setT (W : World) (db k : Nat) (x : RV) : World := ((W.setCell ⟨db, k * 3, none⟩ x.kv).setCell ⟨db, k * 3 + 1, none⟩ (.int .i64 x.turn)).setCell ⟨db, k * 3 + 2, none⟩ x.bv
theorem setT_only (W : World) (db k : Nat) (x : RV) : Only (· = db) W (setT W db k x) :=
  (Only.set (F := (· = db)) W db _ _ rfl).trans ((Only.set (F := (· = db)) _ db _ _ rfl).trans (Only.set (F := (· = db)) _ db _ _ rfl))
theorem RV.tstored {W : World} {base g n cap k : Nat} {es : List RV} (h : W.ownsRow base 59 3 (.slice (some ⟨g, 0, none⟩) n cap) n (es.flatMap RV.task)) (hk : k < es.length) (x : RV) :
    (setT W g k x).ownsRow base 59 3 (.slice (some ⟨g, 0, none⟩) n cap) n ((es.set k x).flatMap RV.task) := by
  obtain ⟨e, he⟩ : ∃ e, es[k]! = e := ⟨_, rfl⟩
  have hset : ∀ (l : List RV) (y : RV), k < l.length → (l.set k y)[k]! = y := fun l y hl => by rw [getElem!_pos _ k (by simpa using hl), List.getElem_set_self]
  have step : ∀ (w : World) (l : List RV) (a : RV) (j : Nat) (y : RV) (u : Value), j < 3 → k < l.length → l[k]! = a → RV.task y = (RV.task a).set j u → w.ownsRow base 59 3 (.slice (some ⟨g, 0, none⟩) n cap) n (l.flatMap RV.task) → (w.setCell ⟨g, k * 3 + j, none⟩ u).ownsRow base 59 3 (.slice (some ⟨g, 0, none⟩) n cap) n ((l.set k y).flatMap RV.task) := fun w l a j y u hj hl ha hy h9 => by
    rw [flat_set (cells := RV.task) l (fun o _ => o.tlen) k j y u hl hj (by rw [ha]; exact hy)]
    exact (h9.stored (k * 3 + j) u).1
  obtain ⟨xp, xpp, xpc, xk, xkp, xkn, xkc, xt, xb, xbp, xbc⟩ := x
  obtain ⟨ep, epp, epc, ek, ekp, ekn, ekc, et, eb, ebp, ebc⟩ := e
  have s1 := step _ _ ⟨ep, epp, epc, ek, ekp, ekn, ekc, et, eb, ebp, ebc⟩ 0 ⟨xp, xpp, xpc, xk, xkp, xkn, xkc, et, eb, ebp, ebc⟩ (.slice xkp xkn xkc) (by decide) hk he rfl h
  have s2 := step _ _ ⟨xp, xpp, xpc, xk, xkp, xkn, xkc, et, eb, ebp, ebc⟩ 1 ⟨xp, xpp, xpc, xk, xkp, xkn, xkc, xt, eb, ebp, ebc⟩ (.int .i64 xt) (by decide) (by simpa using hk) (hset _ _ hk) rfl s1
  have s3 := step _ _ ⟨xp, xpp, xpc, xk, xkp, xkn, xkc, xt, eb, ebp, ebc⟩ 2 ⟨xp, xpp, xpc, xk, xkp, xkn, xkc, xt, xb, xbp, xbc⟩ (.slice xbp xb.length xbc) (by decide) (by simpa using hk) (hset _ _ (by simpa using hk)) rfl s2
  simp only [List.set_set, Nat.add_zero] at s3
  exact s3
theorem setT_facts {W : World} {base g n cap k : Nat} {es : List Value} (h : W.ownsRow base 59 3 (.slice (some ⟨g, 0, none⟩) n cap) n es) (hk : k < n) (d0 d1 : Value) :
    ∃ c0 c1 c2, W.cell? ⟨g, k * 3, none⟩ = some c0 ∧ W.frozen? ⟨g, k * 3, none⟩ = false ∧ (W.setCell ⟨g, k * 3, none⟩ d0).cell? ⟨g, k * 3 + 1, none⟩ = some c1 ∧ (W.setCell ⟨g, k * 3, none⟩ d0).frozen? ⟨g, k * 3 + 1, none⟩ = false ∧
    ((W.setCell ⟨g, k * 3, none⟩ d0).setCell ⟨g, k * 3 + 1, none⟩ d1).cell? ⟨g, k * 3 + 2, none⟩ = some c2 ∧ ((W.setCell ⟨g, k * 3, none⟩ d0).setCell ⟨g, k * 3 + 1, none⟩ d1).frozen? ⟨g, k * 3 + 2, none⟩ = false := by
  have h1 := (h.stored (k * 3) d0).1
  have h2 := (h1.stored (k * 3 + 1) d1).1
  obtain ⟨⟨c0, a0⟩, b0⟩ := row_at h (i := k * 3) (by omega)
  obtain ⟨⟨c1, a1⟩, b1⟩ := row_at h1 (i := k * 3 + 1) (by omega)
  obtain ⟨⟨c2, a2⟩, b2⟩ := row_at h2 (i := k * 3 + 2) (by omega)
  exact ⟨c0, c1, c2, a0, b0, a1, b1, a2, b2⟩
theorem DI.task {W : World} {B b2 db n k g m c : Nat} {dn : List RS} {E : List GE} {rv : List RV} {zs : List Value} (h : DI W B db n k dn E rv) (hr : W.ownsRow b2 59 3 (.slice (some ⟨g, 0, none⟩) m c) m zs) {X : World} (ho : Only (· = g) W X) : DI X B db n k dn E rv := by
  have ht : ∀ (b : Nat) (e : TypeId) (sz m : Nat) (u : Value) (us : List Value), W.ownsRow b e sz u m us → e ≠ 59 → X.ownsRow b e sz u m us := fun b e sz m u us hu he =>
    ownsRow_only hu ho (fun c hb e' => by
      have e2 : c = g := e'
      rw [e2] at hb
      exact rows_apart hu hr he rfl hb)
  exact ⟨h.len, ht _ _ _ _ _ _ h.row (by decide), fun i hi => ⟨ht _ _ _ _ _ _ (h.ok i hi).prow (by decide), fun z hz => ht _ _ _ _ _ _ ((h.ok i hi).pown z hz) (by decide), ht _ _ _ _ _ _ (h.ok i hi).krow (by decide), ht _ _ _ _ _ _ (h.ok i hi).brow (by decide), fun z hz => ht _ _ _ _ _ _ ((h.ok i hi).bown z hz) (by decide), (h.ok i hi).apart⟩, h.plain, h.apart⟩

set_option maxRecDepth 100000 in
set_option maxHeartbeats 8000000 in
theorem states_ok {rf : GO → List (List RC) → RS} {W : World} {parts : Int} {p q : Option Addr} {cap qc n L : Nat} {os : List OV} {xs : List SV} {dn : List RS} (ho : GRow W p cap os) (hn : os.length = n) (hx : LL W q qc xs) (hL : xs.length = L) (hfa : faultC parts (os.map OV.o) L = 0) (hf : Fits rf (os.map OV.o) (xs.map SV.rs) dn) (hxs : ∀ x ∈ xs, x.rs.length ≤ lenB) :
    Calls Try.prog 21 #[.agg #[.int .i64 parts, .slice p n cap], .slice q L qc] W fun e w' => ∃ sb db rv, e = .returned (.tuple #[.slice (some ⟨sb, 0, none⟩) n n, .int .i64 0]) ∧ w'.ownsRow W.heap.size 59 3 (.slice (some ⟨sb, 0, none⟩) n n) n (rv.flatMap RV.task) ∧ DI w' W.heap.size db n n dn (flatC (os.map OV.o)) rv ∧ Below W.heap.size W w' := by
  obtain ⟨i0, hI0, hz0, hz1, hz2⟩ := info_parts Try.infoTask
  have i1 := ho.le
  have i2 := ho.top
  rw [hn] at i1
  have hn24 : n ≤ 24 := by have := hf.few; rw [List.length_map, hn] at this; exact this
  obtain ⟨V, hV⟩ : ∃ V, V = W.alloc (.cells #[.int .i64 parts, .slice p n cap] 34 (0, 0)) := ⟨_, rfl⟩
  have hbV : Below W.heap.size W V := by rw [hV]; exact alloc_below _ _
  have x0 : V.heap[W.heap.size]? = some (.cells #[.int .i64 parts, .slice p n cap] 34 (0, 0)) := by rw [hV]; exact heap_alloc_new _ _
  obtain ⟨gB, hgB⟩ : ∃ gB, W.heap.size = gB := ⟨_, rfl⟩
  rw [hgB] at x0
  have hfl := fault_any (parts := parts) (q := q) (qc := qc) (L := L) (ho.below hbV) hn
  rw [hfa] at hfl
  have HFL := hide hfl
  have HRS : Hid (∀ X, Below W.heap.size W X → Calls Try.prog 26 #[.slice p n cap, .slice q L qc] X fun e w' => ∃ db rv, e = .returned (.slice (some ⟨db, 0, none⟩) n n) ∧ DI w' X.heap.size db n n dn (flatC (os.map OV.o)) rv ∧ Below X.heap.size X w') := hide (fun X hX =>
    results_any (ho.below hX) hn (hx.later hX) hL hf hxs)
  have HBV := hide hbV
  have HX0 := hide x0
  have HGB := hide hgB
  clear ho hn hx hL hfa hf hxs hbV x0 hfl
  go_enter Try.func21, Try.ntmps21
  go_wp2_with fail
  rw [← hV]
  try rw [hgB]
  clear hV hgB
  refine HFL.out.mono ?_
  rintro _ w1 ⟨rfl, hB1⟩
  have hBW1 : Below W.heap.size W w1 := HBV.out.trans (hB1.mono HBV.out.size)
  have y1 := below_box hB1 HX0.out
  have a1 : w1.cell? ⟨gB, 1, none⟩ = some (.slice p n cap) := by simp [World.cell?, y1]
  obtain ⟨w2, hrun, hown, hgr⟩ := run_make_full w1 W.heap.size 52 59 i0 (.agg #[.slice none 0 0, .int .i64 0, .slice none 0 0]) 3 Try.underlying52 hI0 hz0 hz1 .i64 .i64 n (by rw [hz2]; omega) (by unfold maxLen; omega) hBW1.size
  rw [made_task] at hown
  have hb2 : Below w1.heap.size w1 w2 := (Below.refl _ w1).grown hgr (Nat.le_refl _) (fun k hk => by simp at hk)
  obtain ⟨sb, hsb⟩ : ∃ sb, w1.heap.size = sb := ⟨_, rfl⟩
  rw [hsb] at hrun hown
  have y2 := below_box hb2 y1
  have a2 : w2.cell? ⟨gB, 1, none⟩ = some (.slice p n cap) := by simp [World.cell?, y2]
  have hBW2 := hBW1.trans (hb2.mono hBW1.size)
  have HR2 := hide (HRS.out w2 hBW2)
  have HO2 := hide hown
  have HBW2 := hide hBW2
  clear y1 y2 hB1 hBW1 hBW2 hown hgr hb2 hsb HFL HRS
  go_wp2_with fail
  refine HR2.out.mono ?_
  rintro _ w3 ⟨db, rv, rfl, hD, hB3⟩
  have HD := hide (hD : DI w3 w2.heap.size db n n dn (flatC (os.map OV.o)) rv)
  have HO3 := hide (ownsRow_later HO2.out hB3)
  have HBW3 := hide (HBW2.out.trans (hB3.mono HBW2.out.size))
  clear hD hB3 a1 a2 hrun HR2
  go_wp2_with fail
  go_loopw [25] (fun s wr => ∃ (k : Nat) (ts : List RV), k ≤ n ∧ s = .int .i64 (k : Int) ∧ Hid (ts.length = n) ∧ Hid (∀ i, i < k → ts[i]! = rv[i]!) ∧ Hid (wr.ownsRow W.heap.size 59 3 (.slice (some ⟨sb, 0, none⟩) n n) n (ts.flatMap RV.task)) ∧ Hid (DI wr w2.heap.size db n n dn (flatC (os.map OV.o)) rv) ∧ Hid (Below W.heap.size W wr)) (fun s _ => n - (intOf s).toNat)
  case atStart => exact ⟨0, _, Nat.zero_le _, rfl, hide (by simp), hide (fun i hi => absurd hi (Nat.not_lt_zero i)), HO3, HD, HBW3⟩
  case round =>
    obtain ⟨k, ts, hk, rfl, HTL, HTS, HO, HDr, HBr⟩ := hrel
    rename World => wr
    clear HO3 HD HBW3
    by_cases hlt : k < n
    · obtain ⟨x, hx⟩ : ∃ x, rv[k]! = x := ⟨_, rfl⟩
      obtain ⟨d0, d1, d2, d3⟩ := own_getRV HDr.out.row HDr.out.len hlt hx
      unfold RV.pv at d0
      unfold RV.kv at d1
      unfold RV.bv at d3
      obtain ⟨pl, hpl⟩ : ∃ pl, x.ports.length = pl := ⟨_, rfl⟩
      obtain ⟨bl, hbl⟩ : ∃ bl, x.bufs.length = bl := ⟨_, rfl⟩
      rw [hpl] at d0
      rw [hbl] at d3
      obtain ⟨wb, hwb⟩ : ∃ wb, wb = wr.alloc (.cells #[.slice x.pp pl x.pc, .slice x.kp x.kn x.kc, .int .i64 x.turn, .slice x.bp bl x.bc] 70 (0, 0)) := ⟨_, rfl⟩
      have bb : Below wr.heap.size wr wb := by rw [hwb]; exact alloc_below _ _
      have xbox : wb.heap[wr.heap.size]? = some (.cells #[.slice x.pp pl x.pc, .slice x.kp x.kn x.kc, .int .i64 x.turn, .slice x.bp bl x.bc] 70 (0, 0)) := by rw [hwb]; exact heap_alloc_new _ _
      obtain ⟨xb, hxb⟩ : ∃ xb, wr.heap.size = xb := ⟨_, rfl⟩
      rw [hxb] at xbox
      have e1 : wb.cell? ⟨xb, 1, none⟩ = some (.slice x.kp x.kn x.kc) := by simp [World.cell?, xbox]
      have e2 : wb.cell? ⟨xb, 2, none⟩ = some (.int .i64 x.turn) := by simp [World.cell?, xbox]
      have e3 : wb.cell? ⟨xb, 3, none⟩ = some (.slice x.bp bl x.bc) := by simp [World.cell?, xbox]
      have hO4 := ownsRow_later HO.out bb
      obtain ⟨c0, c1, c2, f0, f1, f2, f3, f4, f5⟩ := setT_facts hO4 hlt (.slice x.kp x.kn x.kc) (.int .i64 x.turn)
      have hst := RV.tstored hO4 (k := k) (by rw [HTL.out]; exact hlt) x
      have hds := (HDr.out.later bb).task hO4 (setT_only wb sb k x)
      have hBb : Below W.heap.size W wb := HBr.out.trans (bb.mono HBr.out.size)
      have hBf : Below W.heap.size W (setT wb sb k x) := hBb.trans ((setT_only wb sb k x).below hBb.size (fun i e => by have e' : i = sb := e; have := own_block_base HO.out (b := sb) rfl; omega))
      have HTS2 : Hid (∀ i, i < k + 1 → (ts.set k x)[i]! = rv[i]!) := hide (fun i hi => by
        rw [get_setRV (by rw [HTL.out]; omega)]
        by_cases e : k = i
        · rw [if_pos e, ← e, hx]
        · rw [if_neg e]; exact HTS.out i (by omega))
      have HTL2 : Hid ((ts.set k x).length = n) := hide (by rw [List.length_set]; exact HTL.out)
      unfold setT RV.kv RV.bv at hst hds hBf
      rw [hbl] at hst hds hBf
      have HST := hide hst
      have HDS := hide hds
      have HBF := hide hBf
      clear hst hds hBf hBb hO4 bb xbox hpl hbl hx
      go_upto_region 8 with fail
      rw [← hwb]
      try rw [hxb]
      clear hwb hxb d0 d1 d2 d3
      go_wp2
      exact ⟨⟨k + 1, _, by omega, by first | rfl | go_num, HTL2, HTS2, HST, HDS, HBF⟩, by simp [intOf]; omega⟩
    · obtain rfl : k = n := by omega
      have hts : ts = rv := by
        apply List.ext_getElem
        · rw [HTL.out, HDr.out.len]
        · intro i h1 h2
          have := HTS.out i (by have := HTL.out; omega)
          rw [getElem!_pos ts i h1, getElem!_pos rv i h2] at this
          exact this
      rw [hts] at HO
      have hD9 : DI wr W.heap.size db k k dn (flatC (os.map OV.o)) rv := ⟨HDr.out.len, ownsRow_base HDr.out.row HBW2.out.size, fun i hi => (HDr.out.ok i hi).base HBW2.out.size, HDr.out.plain, HDr.out.apart⟩
      have HD9 := hide hD9
      clear hts hD9
      go_wp2
      go_ret2
      exact ⟨sb, db, rv, rfl, HO.out, HD9.out, HBr.out⟩
end Go.Proofs.Ytbcllgddogghbaa
