/-
  All of the program, of a fold or a window, from what is kept by rising keys. The conditions: lengths.
-/
import Derived.Test.YtcabfohmimglpaaOal
import Derived.Test.YtcabfohmimglpaaOqp
import Derived.Test.YtcabfohmimglpaaOlo
import Derived.Test.YtcabfohmimglpaaOkg
import Derived.Test.YtcabfohmimglpaaOko
namespace Go.Proofs.Ytcabfohmimglpaa
open Go.RowKit

/-- What keep and drop write to. -/
def WrJ (A : LA) (i : Nat) : Prop := A.pe = some ⟨i, 0, none⟩ ∨ i = A.gf ∨ A.po = some ⟨i, 0, none⟩ ∨ A.pg = some ⟨i, 0, none⟩ ∨ i = A.gl
theorem LRep.typesJ {W : World} {base lb i : Nat} {A : LA} {L : LG} (h : LRep W base lb A L) (hi : WrJ A i) : base ≤ i ∧ i < W.heap.size ∧ ∃ cs t, W.heap[i]? = some (.cells cs t (0, 0)) ∧ t ≠ 41 := by
  have key : ∀ {e : TypeId} {k n : Nat} {v : Value} {xs : List Value}, W.ownsRow base e k v n xs → v.ownBlock = some i → e ≠ 41 → base ≤ i ∧ i < W.heap.size ∧ ∃ cs t, W.heap[i]? = some (.cells cs t (0, 0)) ∧ t ≠ 41 := fun {e k n v xs} hr hb hn => by
    obtain ⟨h1, c, q⟩ := own_block_lt hr hb
    exact ⟨(hr.lt i hb).1, h1, c, e, q, hn⟩
  rcases hi with e | e | e | e | e
  · exact key h.es (by rw [e]; rfl) (by decide)
  · subst e
    exact key h.fr rfl (by decide)
  · exact key h.old (by rw [e]; rfl) (by decide)
  · exact key h.gone (by rw [e]; rfl) (by decide)
  · subst e
    exact key h.left rfl (by decide)
theorem LRep.sparesJ {W W' : World} {base lb b1 n1 k1 : Nat} {A : LA} {L : LG} {v1 : Value} {xs : List Value} (h : LRep W base lb A L) (hr : W.ownsRow b1 41 k1 v1 n1 xs) (ho : Only (WrJ A) W W') : W'.ownsRow b1 41 k1 v1 n1 xs :=
  ownsRow_only hr ho (fun b hb e => by
    obtain ⟨_, c1, q1⟩ := own_block_lt hr hb
    obtain ⟨_, _, cs, t, q, hn⟩ := h.typesJ e
    rw [q1] at q
    simp at q
    exact hn q.2.symm)
theorem LRep.sparesBoxJ {W0 W W' : World} {base lb b : Nat} {A : LA} {L : LG} {o : Obj} (h : LRep W0 base lb A L) (hb0 : W0.heap.size ≤ b) (hb : W.heap[b]? = some o) (ho : Only (WrJ A) W W') : W'.heap[b]? = some o :=
  ho.obj hb (fun e => by have := (h.typesJ e).2.1; omega)
/-- Where All stands. -/
structure AllJ (W : World) (B lb : Nat) (A : LA) (L : LG) (kd fn ar : Int) (s0 : ST) (rs : List RC) (k : Nat) : Prop where
  rep : LRep W B lb A L
  ki : KI (stateC kd fn ar s0 (rs.take k)) L
  keys : L.es.map EN.key = keysC (rs.map RC.key)
  few : L.es.length ≤ 1048576
  oldn : L.old.length ≤ 1048576
  lh : L.lh ≤ 2097152
  fh : L.fh ≤ 2097152
theorem AllJ.later {W W' : World} {B lb : Nat} {A : LA} {L : LG} {kd fn ar : Int} {s0 : ST} {rs : List RC} {k : Nat} (h : AllJ W B lb A L kd fn ar s0 rs k) (hb : Below W.heap.size W W') : AllJ W' B lb A L kd fn ar s0 rs k :=
  ⟨h.rep.later hb, h.ki, h.keys, h.few, h.oldn, h.lh, h.fh⟩
theorem AllJ.clear {W W' : World} {F : Nat → Prop} {B lb b2 n2 k2 : Nat} {A : LA} {L : LG} {kd fn ar : Int} {s0 : ST} {rs : List RC} {k : Nat} {v2 : Value} {ys : List Value} (h : AllJ W B lb A L kd fn ar s0 rs k) (hr : W.ownsRow b2 41 k2 v2 n2 ys) (ho : Only F W W') (hF : ∀ i, F i → v2.ownBlock = some i) : AllJ W' B lb A L kd fn ar s0 rs k :=
  ⟨h.rep.clear hr ho hF, h.ki, h.keys, h.few, h.oldn, h.lh, h.fh⟩
theorem placeJ {es : List EN} {ks : List Int} {k : Int} {i : Nat} (h : es.map EN.key = ks) (hr : Rises es) (hm : k ∈ ks) (hp : Place es k i) : i < es.length ∧ (es[i]!).key = k := by
  rw [← h, List.mem_map] at hm
  obtain ⟨e, he, hk⟩ := hm
  obtain ⟨j, hj, rfl⟩ := List.getElem_of_mem he
  obtain ⟨h1, h2, h3⟩ := hp
  have hjk : (es[j]!).key = k := by rw [getElem!_pos es j hj]; exact hk
  have hij : ¬ j < i := fun h9 => by have := h2 j h9; omega
  have hil : i < es.length := by omega
  refine ⟨hil, ?_⟩
  have h4 := h3 i (Nat.le_refl _) hil
  rcases Nat.lt_or_ge i j with h9 | h9
  · have := hr i j h9 hj; omega
  · have : i = j := by omega
    rw [this]; exact hjk
theorem step_otherJ {kd fn ar : Int} {s : ST} {r : RC} {key : Int} (h : key ≠ r.key) : stepC kd fn ar s r key = s key := by unfold stepC; rw [if_neg h]
theorem take_state {kd fn ar : Int} {s0 : ST} {rs : List RC} {k : Nat} {r : RC} (hk : k < rs.length) (hr : rs[k]! = r) : stateC kd fn ar s0 (rs.take (k + 1)) = stepC kd fn ar (stateC kd fn ar s0 (rs.take k)) r := by
  rw [getElem!_pos rs k hk] at hr
  rw [List.take_succ_eq_append_getElem hk, stateC_snoc, hr]
theorem keys_set {es : List EN} {i : Nat} {e : EN} (_ : i < es.length) (h : e.key = (es[i]!).key) : (es.set i e).map EN.key = es.map EN.key := by
  apply List.ext_getElem
  · simp
  · intro j h1 h2
    have hj : j < es.length := by simpa using h2
    rw [List.getElem_map, List.getElem_map, List.getElem_set]
    split
    · rename_i e9
      subst e9
      rw [h, getElem!_pos es i hj]
    · rfl
theorem keep_allJ {W : World} {B lb : Nat} {A : LA} {L : LG} {kd fn ar : Int} {s0 : ST} {rs : List RC} {k i : Nat} {r : RC} {e : EN} {nc na : Int} (h : AllJ W B lb A L kd fn ar s0 rs k) (hk : k < rs.length) (hr : rs[k]! = r) (hi : i < L.es.length) (he : L.es[i]! = e) (hke : e.key = r.key) (hI : I6 r.key) (hnc : nc ≠ 0) (hst : stepC kd fn ar (stateC kd fn ar s0 (rs.take k)) r r.key = (nc, na)) :
    Calls Try.prog 15 #[.pointer (some ⟨lb, 0, none⟩), .int .i64 (i : Int), .agg #[.int .i64 r.key, .int .i64 nc, .int .i64 na]] W fun q w' => ∃ v L', q = .returned v ∧ AllJ w' B lb A L' kd fn ar s0 rs (k + 1) ∧ Only (WrJ A) W w' := by
  have hki := h.ki
  have hts := take_state (kd := kd) (fn := fn) (ar := ar) (s0 := s0) hk hr
  have hent := hki.ent i hi
  rw [he] at hent
  rcases hent with ⟨x, h1, h2, h3, h4, _⟩ | ⟨h1, _, _⟩
  · refine (keep_old (x := x) h.rep hi he h2 h1).mono ?_
    rintro _ w' ⟨v, rfl, q1, q3⟩
    have hox : (L.old[x]!).key = r.key := by rw [h3]; exact hke
    have hk2 := hki.setOld (s' := stateC kd fn ar s0 (rs.take (k + 1))) h1 h4 hnc (fun key hne => by rw [hts]; exact step_otherJ (by rw [← hox]; exact hne)) (by rw [hts, hox]; exact hst)
    rw [hox] at hk2
    exact ⟨v, _, rfl, ⟨q1, hk2, h.keys, h.few, by simp only [List.length_set]; exact h.oldn, h.lh, h.fh⟩, q3.mono (fun i _ e => .inr (.inr (.inl e)))⟩
  · have hfr : ∀ j, L.es.length ≤ j → j < L.fh → L.fr.getD (L.fh + j) 0 = lowN := fun j hj1 hj2 => by rw [hki.fresh j hj2, if_neg (by omega)]
    have hf : (L.es[i]!).first = (L.old.length : Int) := by rw [he]; exact h1
    have hek : (L.es[i]!).key = r.key := by rw [he]; exact hke
    have ho : ∀ key, key ≠ (L.es[i]!).key → stateC kd fn ar s0 (rs.take (k + 1)) key = stateC kd fn ar s0 (rs.take k) key := fun key hne => by rw [hts]; exact step_otherJ (by rw [← hek]; exact hne)
    have ho2 : stateC kd fn ar s0 (rs.take (k + 1)) (L.es[i]!).key = (nc, na) := by rw [hts, hek]; exact hst
    by_cases hc : e.cnt = 0
    · refine (keep_gap (x := L.old.length) h.rep hi he h1 (Nat.le_refl _) hc (by have := hki.ff; omega) (by have := h.lh; omega) (by have := h.fh; omega) hI.1 hfr).mono ?_
      rintro _ w' ⟨v, gp, ps, rfl, q1, q2, q3, j1, f1, j2, f2, F1, F2, hgp⟩
      have hg := hki.gapOk hi hf (by rw [hek]; exact hI.1) (by rw [hek]; exact F1) (by rw [hek]; exact F2)
      rw [hgp] at hg
      have hk2 := hki.setNew hi hf ho ho2 (fr := ps) (gp := gp) (fun j hj => by rw [q2 j hj, if_pos hnc, hek]) (fun _ => hg)
      rw [hek] at hk2
      refine ⟨v, _, rfl, ⟨q1, ?_, ?_, by simp only [List.length_set]; exact h.few, h.oldn, h.lh, h.fh⟩, q3.mono (fun i _ e => e.elim .inl (fun e => .inr (.inl e)))⟩
      · rw [h1]; exact hk2
      · simp only
        rw [keys_set hi (by simp only; exact hek.symm)]
        exact h.keys
    · refine (keep_had (x := L.old.length) h.rep hi he h1 (Nat.le_refl _) hc).mono ?_
      rintro _ w' ⟨v, rfl, q1, q3⟩
      have hci : (L.es[i]!).cnt ≠ 0 := by rw [he]; exact hc
      have hg := hki.gap i hi hci
      have hk2 := hki.setNew hi hf ho ho2 (fr := L.fr) (gp := e.gap) (fun j hj => by
        by_cases e9 : j = i
        · rw [if_pos e9, if_pos hnc, e9, hki.fresh i (by have := hki.ff; omega), if_pos ⟨hi, hci⟩]
        · rw [if_neg e9]) (fun _ => by
        rw [he] at hg ⊢
        refine ⟨hg.1, hg.2.1, hg.2.2, fun j hj hcj => ?_, fun j hj hjl hcj => ?_⟩
        · have := hki.mono j i hj hi hcj hci
          rw [he] at this; exact this
        · have := hki.mono i j hj hjl hci hcj
          rw [he] at this; exact this)
      rw [hek] at hk2
      refine ⟨v, _, rfl, ⟨q1, ?_, ?_, by simp only [List.length_set]; exact h.few, h.oldn, h.lh, h.fh⟩, q3.mono (fun i _ e => e.elim .inl (fun e => .inr (.inl e)))⟩
      · rw [h1]; exact hk2
      · simp only
        rw [keys_set hi (by simp only; exact hek.symm)]
        exact h.keys
theorem drop_allJ {W : World} {B lb : Nat} {A : LA} {L : LG} {kd fn ar : Int} {s0 : ST} {rs : List RC} {k i : Nat} {r : RC} {e : EN} (h : AllJ W B lb A L kd fn ar s0 rs k) (hk : k < rs.length) (hr : rs[k]! = r) (hi : i < L.es.length) (he : L.es[i]! = e) (hke : e.key = r.key) (hst : stepC kd fn ar (stateC kd fn ar s0 (rs.take k)) r r.key = (0, 0)) :
    Calls Try.prog 16 #[.pointer (some ⟨lb, 0, none⟩), .int .i64 (i : Int)] W fun q w' => ∃ v L', q = .returned v ∧ AllJ w' B lb A L' kd fn ar s0 rs (k + 1) ∧ Only (WrJ A) W w' := by
  have hki := h.ki
  have hts := take_state (kd := kd) (fn := fn) (ar := ar) (s0 := s0) hk hr
  have hek : (L.es[i]!).key = r.key := by rw [he]; exact hke
  have ho : ∀ key, key ≠ (L.es[i]!).key → stateC kd fn ar s0 (rs.take (k + 1)) key = stateC kd fn ar s0 (rs.take k) key := fun key hne => by rw [hts]; exact step_otherJ (by rw [← hek]; exact hne)
  have ho2 : stateC kd fn ar s0 (rs.take (k + 1)) (L.es[i]!).key = (0, 0) := by rw [hts, hek]; exact hst
  have hent := hki.ent i hi
  rw [he] at hent
  rcases hent with ⟨x, h1, h2, h3, h4, _⟩ | ⟨h1, _, _⟩
  · refine (drop_old (x := x) h.rep hi he h2 h1 (by have := hki.lf; omega) hki.gl (hki.tl x h1 ⟨i, hi, by rw [he]; exact h3.symm⟩) (by have := h.lh; omega)).mono ?_
    rintro _ w' ⟨v, ps, rfl, q1, q2, q3⟩
    have hk2 := hki.dropOld hi h1 (by rw [he]; exact h2) ho ho2 q2
    rw [he] at hk2
    refine ⟨v, _, rfl, ⟨q1, hk2, ?_, by simp only [List.length_set]; exact h.few, h.oldn, h.lh, h.fh⟩, q3.mono (fun i _ e => ?_)⟩
    · simp only
      rw [keys_set hi (by simp only; rw [he])]
      exact h.keys
    · rcases e with e | e | e
      · exact .inl e
      · exact .inr (.inr (.inr (.inl e)))
      · exact .inr (.inr (.inr (.inr e)))
  · have hf : (L.es[i]!).first = (L.old.length : Int) := by rw [he]; exact h1
    refine (drop_new (x := L.old.length) h.rep hi (by have := hki.ff; omega) he h1 (Nat.le_refl _) (by have := h.fh; omega)).mono ?_
    rintro _ w' ⟨v, ps, rfl, q1, q2, q3⟩
    have hk2 := hki.setNew hi hf ho ho2 (fr := ps) (gp := e.gap) (fun j hj => by rw [q2 j hj]; by_cases e9 : j = i <;> simp [e9]) (fun h9 => absurd rfl h9)
    rw [he] at hk2
    refine ⟨v, _, rfl, ⟨q1, ?_, ?_, by simp only [List.length_set]; exact h.few, h.oldn, h.lh, h.fh⟩, q3.mono (fun i _ e => e.elim .inl (fun e => .inr (.inl e)))⟩
    · rw [h1]; exact hk2
    · simp only
      rw [keys_set hi (by simp only; rw [he])]
      exact h.keys

set_option maxRecDepth 100000 in
set_option maxHeartbeats 16000000 in
theorem all_kept {kp : Option Addr} {kc nk : Nat} {ks : List KS} {s0 : ST} {W : World} {kd pt fn ar tn : Int} {ip p : Option Addr} {n ic c m : Nat} {rs : List RC} (hkp : keepsC kd = true) (h : RRow W p c rs) (hm : rs.length = m) (hb : m ≤ 1048576) (hri : ∀ r ∈ rs, I6 r.key) (hK : KRow W kp kc ks) (hnk : ks.length = nk) (hkb : nk ≤ 1048576) (hsk : SKp s0 ks) (hzn : Zn s0) (hfr : ST.fair s0) :
    Calls Try.prog 5 #[.agg #[.int .i64 kd, .int .i64 pt, .int .i64 fn, .int .i64 ar, .slice ip n ic], .agg #[.slice kp nk kc, .int .i64 tn], .slice p m c] W fun e w' => ∃ pk ck K po co N kk, e = .returned (.tuple #[.agg #[.slice pk K ck, .int .i64 tn], .slice po N co]) ∧ SKp (stateC kd fn ar s0 rs) kk ∧ kk.length = K ∧ (outsC kd fn ar s0 rs).length = N ∧ w'.ownsRow W.heap.size 43 3 (.slice pk K ck) K (kk.flatMap KS.cells) ∧ w'.ownsRow W.heap.size 41 3 (.slice po N co) N ((outsC kd fn ar s0 rs).flatMap PU.cells) ∧ Below W.heap.size W w' := by
  have a1 := alloc_below W (.cells #[.int .i64 kd, .int .i64 pt, .int .i64 fn, .int .i64 ar, .slice ip n ic] 24 (0, 0))
  obtain ⟨V1, hV1⟩ : ∃ V, V = W.alloc (.cells #[.int .i64 kd, .int .i64 pt, .int .i64 fn, .int .i64 ar, .slice ip n ic] 24 (0, 0)) := ⟨_, rfl⟩
  obtain ⟨V2, hV2⟩ : ∃ V, V = V1.alloc (.cells #[.slice kp nk kc, .int .i64 tn] 29 (0, 0)) := ⟨_, rfl⟩
  obtain ⟨V, hV⟩ : ∃ V, V = V2.alloc (.cells #[.slice none 0 0, .int .i64 0] 29 (0, 0)) := ⟨_, rfl⟩
  have s1 : V1.heap.size = W.heap.size + 1 := by rw [hV1]; simp
  have s2 : V2.heap.size = W.heap.size + 2 := by rw [hV2]; simp [s1]
  have b1 : Below W.heap.size W V1 := by rw [hV1]; exact a1
  have b2 : Below V1.heap.size V1 V2 := by rw [hV2]; exact alloc_below _ _
  have b3 : Below V2.heap.size V2 V := by rw [hV]; exact alloc_below _ _
  have u3 : V.heap[W.heap.size]? = some (.cells #[.int .i64 kd, .int .i64 pt, .int .i64 fn, .int .i64 ar, .slice ip n ic] 24 (0, 0)) := below_box b3 (below_box b2 (by rw [hV1]; exact heap_alloc_new W _))
  have u4 : V.heap[W.heap.size + 1]? = some (.cells #[.slice kp nk kc, .int .i64 tn] 29 (0, 0)) := below_box b3 (by rw [hV2, ← s1]; exact heap_alloc_new V1 _)
  have u6 : V.heap[W.heap.size + 2]? = some (.cells #[.slice none 0 0, .int .i64 0] 29 (0, 0)) := by rw [hV, ← s2]; exact heap_alloc_new V2 _
  have bV : Below W.heap.size W V := (b1.trans (b2.mono b1.size)).trans (b3.mono (Nat.le_trans b1.size b2.size))
  have eV : V = ((W.alloc (.cells #[.int .i64 kd, .int .i64 pt, .int .i64 fn, .int .i64 ar, .slice ip n ic] 24 (0, 0))).alloc (.cells #[.slice kp nk kc, .int .i64 tn] 29 (0, 0))).alloc (.cells #[.slice none 0 0, .int .i64 0] 29 (0, 0)) := by rw [hV, hV2, hV1]
  clear hV hV1 hV2 a1 b1 b2 b3 s1 s2 V1 V2
  obtain ⟨sB, hsB⟩ : ∃ sB, W.heap.size = sB := ⟨_, rfl⟩
  rw [hsB] at u3 u4 u6
  have x0 : V.cell? ⟨sB, 0, none⟩ = some (.int .i64 kd) := by simp [World.cell?, u3]
  have x1 : V.cell? ⟨sB, 1, none⟩ = some (.int .i64 pt) := by simp [World.cell?, u3]
  have x2 : V.cell? ⟨sB, 2, none⟩ = some (.int .i64 fn) := by simp [World.cell?, u3]
  have x3 : V.cell? ⟨sB, 3, none⟩ = some (.int .i64 ar) := by simp [World.cell?, u3]
  have x4 : V.cell? ⟨sB, 4, none⟩ = some (.slice ip n ic) := by simp [World.cell?, u3]
  have HBV := hide bV
  have HU3 := hide u3
  have HU4 := hide u4
  have HU6 := hide u6
  have HR := hide (h.below bV)
  have HM := hide hm
  have HRI := hide hri
  have HKW := hide (KRow.later hK bV)
  have HNK := hide hnk
  have HSK := hide hsk
  have HZN := hide hzn
  have HFR := hide hfr
  have HSB := hide hsB
  clear h bV u3 u4 u6 hm hri hK hnk hsk hzn hfr
  go_enter Try.func5, Try.ntmps5
  go_upto_region 1 with fail
  rw [← eV]
  try rw [hsB]
  clear eV hsB
  go_wp2_with fail
  refine keeps_any.mono ?_
  rintro _ w1 ⟨rfl, k1⟩
  rw [hkp]
  have y0 := below_box k1 HU4.out
  have z0 : w1.cell? ⟨sB + 1, 0, none⟩ = some (.slice kp nk kc) := by simp [World.cell?, y0]
  have HB1 : Hid (Below V.heap.size V w1) := hide k1
  have HOP := hide (open_kept (HR.out.below k1) HM.out hb (KRow.later HKW.out k1) HNK.out hkb HSK.out.rise)
  clear k1 y0 x0 x1 x2 x3 x4 hkp
  go_wp2_with fail
  refine HOP.out.mono ?_
  rintro _ w2 ⟨lb, A, L0, rfl, l1, l2, l6, l7, ⟨ge, l8⟩, b2⟩
  obtain ⟨B, hB⟩ : ∃ B, w1.heap.size = B := ⟨_, rfl⟩
  have HI0 : Hid (AllJ w2 B lb A L0 kd fn ar s0 rs 0) := by
    refine hide ⟨by rw [← hB]; exact l1, by rw [List.take_zero]; exact l2.ki HZN.out HSK.out (keysC_facts _).1, l2.keys, ?_, by rw [l2.old, HNK.out]; exact hkb, l6, l7⟩
    have h8 := congrArg List.length l2.keys
    rw [List.length_map] at h8
    have h9 := keysC_len (rs.map RC.key)
    rw [List.length_map, HM.out] at h9
    omega
  have HPE := hide l8
  have HB2 : Hid (Below B w1 w2) := by rw [← hB]; exact hide b2
  have HBB := hide hB
  clear l1 l2 l6 l7 l8 b2 hB HOP z0
  go_wp2_with fail
  go_loopw [8, 40] (fun o i wq => ∃ (k : Nat) (po : Option Addr) (co N : Nat) (L : LG), k ≤ m ∧ i = .int .i64 (k : Int) ∧ o = .slice po N co ∧ Hid ((outsC kd fn ar s0 (rs.take k)).length = N) ∧ Hid (AllJ wq B lb A L kd fn ar s0 rs k) ∧ Hid (wq.ownsRow B 41 3 (.slice po N co) N ((outsC kd fn ar s0 (rs.take k)).flatMap PU.cells)) ∧ Hid (Below B w1 wq)) (fun _ i _ => m - (intOf i).toNat)
  case atStart => exact ⟨0, none, 0, 0, L0, Nat.zero_le _, rfl, rfl, hide (by rw [List.take_zero]; rfl), HI0, hide (by rw [List.take_zero]; exact World.ownsRow_nil _ _ _ _), HB2⟩
  case round =>
    obtain ⟨k, po, co, N, L, hk, rfl, rfl, HN, HI, HO, HB⟩ := hrel
    rename World => wr
    clear HI0 HB2
    by_cases hlt : k < m
    · have hltr : k < rs.length := by rw [HM.out]; exact hlt
      have HBW : Hid (Below V.heap.size V wr) := hide (HB1.out.trans (HB.out.mono (by rw [← HBB.out]; exact HB1.out.size)))
      obtain ⟨g2, o2, rfl, hc⟩ := (HR.out.below HBW.out).cell k hltr
      obtain ⟨r, hx⟩ : ∃ x, rs[k]! = x := ⟨_, rfl⟩
      obtain ⟨ky, vl⟩ := r
      rw [hx] at hc
      have d0 : wr.cell? ⟨g2, o2 + k * 2, none⟩ = some (.int .i64 ky) := hc 0 (by omega)
      have d1 : wr.cell? ⟨g2, o2 + k * 2 + 1, none⟩ = some (.int .i64 vl) := hc 1 (by omega)
      have HX := hide hx
      have hmem : (⟨ky, vl⟩ : RC) ∈ rs := by
        rw [getElem!_pos rs k hltr] at hx
        rw [← hx]
        exact List.getElem_mem hltr
      have HKI : Hid (I6 ky) := hide (HRI.out _ hmem)
      have HKM : Hid (ky ∈ keysC (rs.map RC.key)) := hide (((keysC_facts _).2 ky).2 (List.mem_map.2 ⟨_, hmem, rfl⟩))
      obtain ⟨X1, hX1⟩ : ∃ X, X = wr.alloc (.cells #[.int .i64 ky, .int .i64 vl] 39 (0, 0)) := ⟨_, rfl⟩
      have bX1 : Below wr.heap.size wr X1 := by rw [hX1]; exact alloc_below _ _
      have ux : X1.heap[wr.heap.size]? = some (.cells #[.int .i64 ky, .int .i64 vl] 39 (0, 0)) := by rw [hX1]; exact heap_alloc_new _ _
      obtain ⟨nb, hnb⟩ : ∃ nb, wr.heap.size = nb := ⟨_, rfl⟩
      rw [hnb] at ux
      have q0 : X1.cell? ⟨nb, 0, none⟩ = some (.int .i64 ky) := by simp [World.cell?, ux]
      have HUX := hide ux
      have HBX := hide bX1
      have hI1 := HI.out.later bX1
      have HEN := hide (entry_any (k := ky) hI1.rep hI1.ki.er (by have := hI1.few; omega))
      clear hc hx hmem ux bX1 hI1 hltr
      go_upto_region 13 with fail
      rw [← hX1]
      try rw [hnb]
      clear hX1 hnb d0 d1
      go_wp2_with fail
      refine HEN.out.mono ?_
      rintro _ w3 ⟨i, rfl, hpl, b3⟩
      have HB3 := hide b3
      have hI3 := (HI.out.later HBX.out).later b3
      obtain ⟨hi, hke⟩ := placeJ hI3.keys hI3.ki.er HKM.out hpl
      obtain ⟨e, he⟩ : ∃ e, L.es[i]! = e := ⟨_, rfl⟩
      obtain ⟨st, hst⟩ : ∃ st, stateC kd fn ar s0 (rs.take k) = st := ⟨_, rfl⟩
      have hki := hI3.ki
      rw [hst] at hki
      have hfi : 0 ≤ (L.es[i]!).first := by
        rcases hki.ent i hi with ⟨y, _, h2, _⟩ | ⟨h1, _⟩
        · rw [h2]; omega
        · rw [h1]; omega
      have hfair : ST.fair st := by rw [← hst]; exact fair_state kd fn ar _ _ HFR.out
      obtain ⟨cn, hcn⟩ : ∃ cn, (st ky).1 = cn := ⟨_, rfl⟩
      obtain ⟨ac, hac⟩ : ∃ cn, (st ky).2 = cn := ⟨_, rfl⟩
      have e2 : cn = (st ky).1 := hcn.symm
      have e3 : ac = (st ky).2 := hac.symm
      have hhad : hadC L i = ⟨ky, cn, ac⟩ := by rw [hki.had hi, hke, hcn, hac]
      rw [he] at hke
      have HH : Hid (∀ X, Below w3.heap.size w3 X → Calls Try.prog 14 #[.pointer (some ⟨lb, 0, none⟩), .int .i64 (i : Int)] X fun e w' => e = .returned (.agg #[.int .i64 ky, .int .i64 cn, .int .i64 ac]) ∧ Below X.heap.size X w') := hide (fun X hX => by
        have h9 := had_any (hI3.rep.later hX) hi hfi
        rw [hhad] at h9
        exact h9)
      have hci : I6 cn := by
        have h9 := hfair ky
        rw [← e2] at h9
        exact ⟨by omega, by omega⟩
      obtain ⟨sb, hsb⟩ : ∃ sb, staysC kd ar cn = sb := ⟨_, rfl⟩
      obtain ⟨nc, hnc⟩ : ∃ nc, countC cn = nc := ⟨_, rfl⟩
      obtain ⟨na, hna⟩ : ∃ na, accC fn cn ac vl = na := ⟨_, rfl⟩
      have HNX : Hid (∀ X, Calls Try.prog 13 #[.agg #[.int .i64 kd, .int .i64 pt, .int .i64 fn, .int .i64 ar, .slice ip n ic], .agg #[.int .i64 ky, .int .i64 cn, .int .i64 ac], .int .i64 vl] X fun e w' => e = .returned (.tuple #[.agg #[.int .i64 ky, .int .i64 nc, .int .i64 na], .bool sb]) ∧ Below X.heap.size X w') := hide (fun X => next_any hci hna hnc hsb)
      have HNC : Hid (nc ≠ 0) := hide (by
        have h9 := (hfair ky).1
        rw [← e2] at h9
        rw [← hnc]
        unfold countC
        split <;> omega)
      have HST1 : Hid (stepC kd fn ar st ⟨ky, vl⟩ ky = if sb = true then (nc, na) else (0, 0)) := hide (by unfold stepC; rw [if_pos rfl, ← e2, ← e3, hsb, hnc, hna])
      have HOC : Hid (outC kd fn ar st ⟨ky, vl⟩ = tellC kd sb ky na) := hide (by unfold outC; rw [← e2, ← e3, hsb, hna])
      have HI3 := hide hI3
      have HII := hide hi
      have HE := hide he
      have HKE := hide hke
      have HSS := hide hst
      have bw3 : Below V.heap.size V w3 := (HBW.out.trans (HBX.out.mono HBW.out.size)).trans (b3.mono (Nat.le_trans HBW.out.size HBX.out.size))
      have HBW3 := hide bw3
      have u3 := below_box bw3 HU3.out
      have r1 := below_box b3 HUX.out
      have f0 : w3.cell? ⟨sB, 0, none⟩ = some (.int .i64 kd) := by simp [World.cell?, u3]
      have f1 : w3.cell? ⟨sB, 1, none⟩ = some (.int .i64 pt) := by simp [World.cell?, u3]
      have f2 : w3.cell? ⟨sB, 2, none⟩ = some (.int .i64 fn) := by simp [World.cell?, u3]
      have f3 : w3.cell? ⟨sB, 3, none⟩ = some (.int .i64 ar) := by simp [World.cell?, u3]
      have f4 : w3.cell? ⟨sB, 4, none⟩ = some (.slice ip n ic) := by simp [World.cell?, u3]
      have f5 : w3.cell? ⟨nb, 1, none⟩ = some (.int .i64 vl) := by simp [World.cell?, r1]
      clear b3 hI3 hi hke hpl he e2 e3 hst hfair hki hfi hcn hac hhad hci hsb hnc hna bw3 u3 r1 HEN HUX q0 HI
      go_upto_region 14 with fail
      go_cut [15, 16] from 48 to 57 (fun s15 s16 wd => ∃ tb : Nat, s15 = .pointer (some ⟨tb, 0, none⟩) ∧ s16 = .bool sb ∧ Hid (wd.heap[tb]? = some (.cells #[.int .i64 ky, .int .i64 nc, .int .i64 na] 43 (0, 0))) ∧ Hid (Below w3.heap.size w3 wd) ∧ Hid (w3.heap.size ≤ tb))
      case first =>
        refine wp_region_held_drew (S := fun w' => w'.cell? ⟨sB, 0, none⟩ = some (.int .i64 kd) ∧ w'.cell? ⟨sB, 1, none⟩ = some (.int .i64 pt) ∧ w'.cell? ⟨sB, 2, none⟩ = some (.int .i64 fn) ∧ w'.cell? ⟨sB, 3, none⟩ = some (.int .i64 ar) ∧ w'.cell? ⟨sB, 4, none⟩ = some (.slice ip n ic) ∧ w'.cell? ⟨nb, 1, none⟩ = some (.int .i64 vl)) (by kernel_rfl) ⟨f0, f1, f2, f3, f4, f5⟩ (fun hHeld => ?_)
        refine wpAnyH_take (i := 0) (oi := _) (v := ?_) rfl (by kernel_rfl) (by kernel_rfl) (by kernel_rfl) (fun _ _ _ h => h) (Or.inl ⟨by rfl, ?_⟩) (by assumption) ?_
        rotate_left
        · intro w hSw
          (try dsimp only at hSw)
          go_simp
          all_goals with_reducible rfl
        simp only [Act.put, List.setIfInBounds_toArray] --TAKE 1
        refine wpAnyH_take (i := 1) (oi := _) (v := ?_) rfl (by kernel_rfl) (by kernel_rfl) (by kernel_rfl) (fun _ _ _ h => h) (Or.inl ⟨by rfl, ?_⟩) (by assumption) ?_
        rotate_left
        · intro w hSw
          (try dsimp only at hSw)
          go_simp
          all_goals with_reducible rfl
        simp only [Act.put] --TAKE 2
        refine wpAnyH_take (i := 2) (oi := _) (v := ?_) rfl (by kernel_rfl) (by kernel_rfl) (by kernel_rfl) (fun _ _ _ h => h) (Or.inl ⟨by rfl, ?_⟩) (by assumption) ?_
        rotate_left
        · intro w hSw
          (try dsimp only at hSw)
          go_simp
          all_goals with_reducible rfl
        simp only [Act.put] --TAKE 3
        refine wpAnyH_take (i := 4) (oi := _) (v := ?_) rfl (by kernel_rfl) (by kernel_rfl) (by kernel_rfl) (fun _ _ _ h => h) (Or.inl ⟨by rfl, ?_⟩) (by assumption) ?_
        rotate_left
        · intro w hSw
          (try dsimp only at hSw)
          go_simp
          all_goals with_reducible rfl
        simp only [Act.put] --TAKE 4
        refine wpAnyH_take (i := 5) (oi := _) (v := ?_) rfl (by kernel_rfl) (by kernel_rfl) (by kernel_rfl) (fun _ _ _ h => h) (Or.inl ⟨by rfl, ?_⟩) (by assumption) ?_
        rotate_left
        · intro w hSw
          (try dsimp only at hSw)
          go_simp
          all_goals with_reducible rfl
        simp only [Act.put] --TAKE 5
        have BD : Below w3.heap.size w3 w3.drew := (Below.refl _ w3).drew
        refine wpAnyH_ready (rs := [3, 10]) (by kernel_rfl) (by simp) ?_
        refine AllReadyH.cons (o := _) rfl (fun K hK => ?_) ?_
        · go_simp
          refine (HH.out _ BD).mono ?_
          rintro _ wh ⟨rfl, b9⟩
          replace BD := BD.trans (b9.mono BD.size)
          clear b9
          go_wp2_with fail
          refine hK.out _ _ ⟨cell_later BD f0, cell_later BD f1, cell_later BD f2, cell_later BD f3, cell_later BD f4, cell_later BD f5⟩ (fun hHeld => ?_)
          clear hK
          refine wpAnyH_ready (rs := [6, 10]) (by kernel_rfl) (by simp) ?_
          refine AllReadyH.cons (o := _) rfl (fun K hK => ?_) ?_
          · go_simp
            refine (HNX.out _).mono ?_
            rintro _ wx ⟨rfl, b9⟩
            replace BD := BD.trans (b9.mono BD.size)
            clear b9
            go_wp2_with fail
            refine hK.out _ _ ⟨cell_later BD f0, cell_later BD f1, cell_later BD f2, cell_later BD f3, cell_later BD f4, cell_later BD f5⟩ (fun hHeld => ?_)
            clear hK
            refine wpAnyH_take (i := 7) (oi := _) (v := ?_) rfl (by kernel_rfl) (by kernel_rfl) (by kernel_rfl) (fun _ _ _ h => h) (Or.inl ⟨by rfl, ?_⟩) (by assumption) ?_
            rotate_left
            · intro w hSw
              (try dsimp only at hSw)
              go_simp
              all_goals with_reducible rfl
            simp only [Act.put, List.setIfInBounds_toArray] --TAKE 6
            refine wpAnyH_take (i := 8) (oi := _) (v := ?_) rfl (by kernel_rfl) (by kernel_rfl) (by kernel_rfl) (fun _ _ _ h => h) (Or.inl ⟨by rfl, ?_⟩) (by assumption) ?_
            rotate_left
            · intro w hSw
              (try dsimp only at hSw)
              go_simp
              all_goals with_reducible rfl
            simp only [Act.put] --TAKE 7
            refine wpAnyH_take (i := 9) (oi := _) (v := ?_) rfl (by kernel_rfl) (by kernel_rfl) (by kernel_rfl) (fun _ _ _ h => h) (Or.inl ⟨by rfl, ?_⟩) (by assumption) ?_
            rotate_left
            · intro w hSw
              (try dsimp only at hSw)
              go_simp
              all_goals with_reducible rfl
            simp only [Act.put] --TAKE 8
            refine wpAnyH_ready (rs := [10]) (by kernel_rfl) (by simp) ?_
            refine AllReadyH.cons (o := _) rfl (fun K hK => ?_) AllReadyH.nil
            go_simp
            have T : (wx.alloc (.cells #[.int .i64 0, .int .i64 0, .int .i64 0] 43 (0, 0))).heap[wx.heap.size]? = some (.cells #[.int .i64 0, .int .i64 0, .int .i64 0] 43 (0, 0)) := heap_alloc_new wx (.cells #[.int .i64 0, .int .i64 0, .int .i64 0] 43 (0, 0))
            have GE : w3.heap.size ≤ wx.heap.size := BD.size
            replace BD := BD.trans ((alloc_below wx (.cells #[.int .i64 0, .int .i64 0, .int .i64 0] 43 (0, 0))).mono BD.size)
            refine hK.out _ _ ⟨cell_later BD f0, cell_later BD f1, cell_later BD f2, cell_later BD f3, cell_later BD f4, cell_later BD f5⟩ (fun hHeld => ?_)
            clear hK
            obtain ⟨Y, hY⟩ : ∃ Y, Y = wx.alloc (.cells #[.int .i64 0, .int .i64 0, .int .i64 0] 43 (0, 0)) := ⟨_, rfl⟩
            rw [← hY] at T BD ⊢
            clear hY
            obtain ⟨tb, htb⟩ : ∃ tb, wx.heap.size = tb := ⟨_, rfl⟩
            rw [htb] at T ⊢
            replace GE : w3.heap.size ≤ tb := by rw [← htb]; exact GE
            have HGE := hide GE
            clear htb
            have t0 : Y.cell? ⟨tb, 0, none⟩ = some (.int .i64 0) := by simp [World.cell?, T]
            have t1 : Y.cell? ⟨tb, 1, none⟩ = some (.int .i64 0) := by simp [World.cell?, T]
            have t2 : Y.cell? ⟨tb, 2, none⟩ = some (.int .i64 0) := by simp [World.cell?, T]
            have z0 : Y.frozen? ⟨tb, 0, none⟩ = false := by simp [World.frozen?, T]
            have z1 : Y.frozen? ⟨tb, 1, none⟩ = false := by simp [World.frozen?, T]
            have z2 : Y.frozen? ⟨tb, 2, none⟩ = false := by simp [World.frozen?, T]
            have HTT : Hid ((((Y.setCell ⟨tb, 0, none⟩ (.int .i64 ky)).setCell ⟨tb, 1, none⟩ (.int .i64 nc)).setCell ⟨tb, 2, none⟩ (.int .i64 na)).heap[tb]? = some (.cells #[.int .i64 ky, .int .i64 nc, .int .i64 na] 43 (0, 0))) := hide (heap_set_sameO (heap_set_sameO (heap_set_sameO T 0 _) 1 _) 2 _)
            have BD3 := ((BD.setCell (p := ⟨tb, 0, none⟩) GE (.int .i64 ky)).setCell (p := ⟨tb, 1, none⟩) GE (.int .i64 nc)).setCell (p := ⟨tb, 2, none⟩) GE (.int .i64 na)
            clear T GE BD
            refine wpAnyH_ready (rs := [11]) (by kernel_rfl) (by simp) ?_
            refine AllReadyH.cons (o := _) rfl (fun K hK => ?_) AllReadyH.nil
            go_simp
            refine hK.out _ _ ⟨cell_later BD3 f0, cell_later BD3 f1, cell_later BD3 f2, cell_later BD3 f3, cell_later BD3 f4, cell_later BD3 f5⟩ (fun hHeld => ?_)
            clear hK
            refine wpAnyH_ready (rs := [12]) (by kernel_rfl) (by simp) ?_
            refine AllReadyH.cons (o := _) rfl (fun K hK => ?_) AllReadyH.nil
            go_simp
            refine hK.out _ _ ⟨cell_later BD3 f0, cell_later BD3 f1, cell_later BD3 f2, cell_later BD3 f3, cell_later BD3 f4, cell_later BD3 f5⟩ (fun hHeld => ?_)
            clear hK
            refine wpAnyH_done (by kernel_rfl) ?_ _
            have HBD := hide BD3
            clear BD3
            go_wp2_with fail
            go_meet
            case rel => exact ⟨tb, rfl, rfl, HTT, HBD, HGE⟩
          refine AllReadyH.cons (o := _) rfl (fun K hK => ?_) AllReadyH.nil
          go_simp
          have T : (wh.alloc (.cells #[.int .i64 0, .int .i64 0, .int .i64 0] 43 (0, 0))).heap[wh.heap.size]? = some (.cells #[.int .i64 0, .int .i64 0, .int .i64 0] 43 (0, 0)) := heap_alloc_new wh (.cells #[.int .i64 0, .int .i64 0, .int .i64 0] 43 (0, 0))
          have GE : w3.heap.size ≤ wh.heap.size := BD.size
          replace BD := BD.trans ((alloc_below wh (.cells #[.int .i64 0, .int .i64 0, .int .i64 0] 43 (0, 0))).mono BD.size)
          refine hK.out _ _ ⟨cell_later BD f0, cell_later BD f1, cell_later BD f2, cell_later BD f3, cell_later BD f4, cell_later BD f5⟩ (fun hHeld => ?_)
          clear hK
          refine wpAnyH_ready (rs := [6]) (by kernel_rfl) (by simp) ?_
          refine AllReadyH.cons (o := _) rfl (fun K hK => ?_) AllReadyH.nil
          go_simp
          refine (HNX.out _).mono ?_
          rintro _ wx ⟨rfl, b9⟩
          replace T := below_box b9 T
          replace BD := BD.trans (b9.mono BD.size)
          clear b9
          go_wp2_with fail
          refine hK.out _ _ ⟨cell_later BD f0, cell_later BD f1, cell_later BD f2, cell_later BD f3, cell_later BD f4, cell_later BD f5⟩ (fun hHeld => ?_)
          clear hK
          refine wpAnyH_take (i := 7) (oi := _) (v := ?_) rfl (by kernel_rfl) (by kernel_rfl) (by kernel_rfl) (fun _ _ _ h => h) (Or.inl ⟨by rfl, ?_⟩) (by assumption) ?_
          rotate_left
          · intro w hSw
            (try dsimp only at hSw)
            go_simp
            all_goals with_reducible rfl
          simp only [Act.put, List.setIfInBounds_toArray] --TAKE 9
          refine wpAnyH_take (i := 8) (oi := _) (v := ?_) rfl (by kernel_rfl) (by kernel_rfl) (by kernel_rfl) (fun _ _ _ h => h) (Or.inl ⟨by rfl, ?_⟩) (by assumption) ?_
          rotate_left
          · intro w hSw
            (try dsimp only at hSw)
            go_simp
            all_goals with_reducible rfl
          simp only [Act.put] --TAKE 10
          refine wpAnyH_take (i := 9) (oi := _) (v := ?_) rfl (by kernel_rfl) (by kernel_rfl) (by kernel_rfl) (fun _ _ _ h => h) (Or.inl ⟨by rfl, ?_⟩) (by assumption) ?_
          rotate_left
          · intro w hSw
            (try dsimp only at hSw)
            go_simp
            all_goals with_reducible rfl
          simp only [Act.put] --TAKE 11
          obtain ⟨tb, htb⟩ : ∃ tb, wh.heap.size = tb := ⟨_, rfl⟩
          rw [htb] at T ⊢
          replace GE : w3.heap.size ≤ tb := by rw [← htb]; exact GE
          have HGE := hide GE
          clear htb
          have t0 : wx.cell? ⟨tb, 0, none⟩ = some (.int .i64 0) := by simp [World.cell?, T]
          have t1 : wx.cell? ⟨tb, 1, none⟩ = some (.int .i64 0) := by simp [World.cell?, T]
          have t2 : wx.cell? ⟨tb, 2, none⟩ = some (.int .i64 0) := by simp [World.cell?, T]
          have z0 : wx.frozen? ⟨tb, 0, none⟩ = false := by simp [World.frozen?, T]
          have z1 : wx.frozen? ⟨tb, 1, none⟩ = false := by simp [World.frozen?, T]
          have z2 : wx.frozen? ⟨tb, 2, none⟩ = false := by simp [World.frozen?, T]
          have HTT : Hid ((((wx.setCell ⟨tb, 0, none⟩ (.int .i64 ky)).setCell ⟨tb, 1, none⟩ (.int .i64 nc)).setCell ⟨tb, 2, none⟩ (.int .i64 na)).heap[tb]? = some (.cells #[.int .i64 ky, .int .i64 nc, .int .i64 na] 43 (0, 0))) := hide (heap_set_sameO (heap_set_sameO (heap_set_sameO T 0 _) 1 _) 2 _)
          have BD3 := ((BD.setCell (p := ⟨tb, 0, none⟩) GE (.int .i64 ky)).setCell (p := ⟨tb, 1, none⟩) GE (.int .i64 nc)).setCell (p := ⟨tb, 2, none⟩) GE (.int .i64 na)
          clear T GE BD
          refine wpAnyH_ready (rs := [11]) (by kernel_rfl) (by simp) ?_
          refine AllReadyH.cons (o := _) rfl (fun K hK => ?_) AllReadyH.nil
          go_simp
          refine hK.out _ _ ⟨cell_later BD3 f0, cell_later BD3 f1, cell_later BD3 f2, cell_later BD3 f3, cell_later BD3 f4, cell_later BD3 f5⟩ (fun hHeld => ?_)
          clear hK
          refine wpAnyH_ready (rs := [12]) (by kernel_rfl) (by simp) ?_
          refine AllReadyH.cons (o := _) rfl (fun K hK => ?_) AllReadyH.nil
          go_simp
          refine hK.out _ _ ⟨cell_later BD3 f0, cell_later BD3 f1, cell_later BD3 f2, cell_later BD3 f3, cell_later BD3 f4, cell_later BD3 f5⟩ (fun hHeld => ?_)
          clear hK
          refine wpAnyH_done (by kernel_rfl) ?_ _
          have HBD := hide BD3
          clear BD3
          go_wp2_with fail
          go_meet
          case rel => exact ⟨tb, rfl, rfl, HTT, HBD, HGE⟩
        refine AllReadyH.cons (o := _) rfl (fun K hK => ?_) AllReadyH.nil
        go_simp
        have T : (w3.drew.alloc (.cells #[.int .i64 0, .int .i64 0, .int .i64 0] 43 (0, 0))).heap[w3.heap.size]? = some (.cells #[.int .i64 0, .int .i64 0, .int .i64 0] 43 (0, 0)) := heap_alloc_new w3.drew (.cells #[.int .i64 0, .int .i64 0, .int .i64 0] 43 (0, 0))
        have GE : w3.heap.size ≤ w3.heap.size := BD.size
        replace BD := BD.trans ((alloc_below w3.drew (.cells #[.int .i64 0, .int .i64 0, .int .i64 0] 43 (0, 0))).mono BD.size)
        refine hK.out _ _ ⟨cell_later BD f0, cell_later BD f1, cell_later BD f2, cell_later BD f3, cell_later BD f4, cell_later BD f5⟩ (fun hHeld => ?_)
        clear hK
        refine wpAnyH_ready (rs := [3]) (by kernel_rfl) (by simp) ?_
        refine AllReadyH.cons (o := _) rfl (fun K hK => ?_) AllReadyH.nil
        go_simp
        refine (HH.out _ BD).mono ?_
        rintro _ wh ⟨rfl, b9⟩
        replace T := below_box b9 T
        replace BD := BD.trans (b9.mono BD.size)
        clear b9
        go_wp2_with fail
        refine hK.out _ _ ⟨cell_later BD f0, cell_later BD f1, cell_later BD f2, cell_later BD f3, cell_later BD f4, cell_later BD f5⟩ (fun hHeld => ?_)
        clear hK
        refine wpAnyH_ready (rs := [6]) (by kernel_rfl) (by simp) ?_
        refine AllReadyH.cons (o := _) rfl (fun K hK => ?_) AllReadyH.nil
        go_simp
        refine (HNX.out _).mono ?_
        rintro _ wx ⟨rfl, b9⟩
        replace T := below_box b9 T
        replace BD := BD.trans (b9.mono BD.size)
        clear b9
        go_wp2_with fail
        refine hK.out _ _ ⟨cell_later BD f0, cell_later BD f1, cell_later BD f2, cell_later BD f3, cell_later BD f4, cell_later BD f5⟩ (fun hHeld => ?_)
        clear hK
        refine wpAnyH_take (i := 7) (oi := _) (v := ?_) rfl (by kernel_rfl) (by kernel_rfl) (by kernel_rfl) (fun _ _ _ h => h) (Or.inl ⟨by rfl, ?_⟩) (by assumption) ?_
        rotate_left
        · intro w hSw
          (try dsimp only at hSw)
          go_simp
          all_goals with_reducible rfl
        simp only [Act.put, List.setIfInBounds_toArray] --TAKE 12
        refine wpAnyH_take (i := 8) (oi := _) (v := ?_) rfl (by kernel_rfl) (by kernel_rfl) (by kernel_rfl) (fun _ _ _ h => h) (Or.inl ⟨by rfl, ?_⟩) (by assumption) ?_
        rotate_left
        · intro w hSw
          (try dsimp only at hSw)
          go_simp
          all_goals with_reducible rfl
        simp only [Act.put] --TAKE 13
        refine wpAnyH_take (i := 9) (oi := _) (v := ?_) rfl (by kernel_rfl) (by kernel_rfl) (by kernel_rfl) (fun _ _ _ h => h) (Or.inl ⟨by rfl, ?_⟩) (by assumption) ?_
        rotate_left
        · intro w hSw
          (try dsimp only at hSw)
          go_simp
          all_goals with_reducible rfl
        simp only [Act.put] --TAKE 14
        obtain ⟨tb, htb⟩ : ∃ tb, w3.heap.size = tb := ⟨_, rfl⟩
        rw [htb] at T ⊢
        replace GE : w3.heap.size ≤ tb := by rw [← htb]; exact GE
        have HGE := hide GE
        clear htb
        have t0 : wx.cell? ⟨tb, 0, none⟩ = some (.int .i64 0) := by simp [World.cell?, T]
        have t1 : wx.cell? ⟨tb, 1, none⟩ = some (.int .i64 0) := by simp [World.cell?, T]
        have t2 : wx.cell? ⟨tb, 2, none⟩ = some (.int .i64 0) := by simp [World.cell?, T]
        have z0 : wx.frozen? ⟨tb, 0, none⟩ = false := by simp [World.frozen?, T]
        have z1 : wx.frozen? ⟨tb, 1, none⟩ = false := by simp [World.frozen?, T]
        have z2 : wx.frozen? ⟨tb, 2, none⟩ = false := by simp [World.frozen?, T]
        have HTT : Hid ((((wx.setCell ⟨tb, 0, none⟩ (.int .i64 ky)).setCell ⟨tb, 1, none⟩ (.int .i64 nc)).setCell ⟨tb, 2, none⟩ (.int .i64 na)).heap[tb]? = some (.cells #[.int .i64 ky, .int .i64 nc, .int .i64 na] 43 (0, 0))) := hide (heap_set_sameO (heap_set_sameO (heap_set_sameO T 0 _) 1 _) 2 _)
        have BD3 := ((BD.setCell (p := ⟨tb, 0, none⟩) GE (.int .i64 ky)).setCell (p := ⟨tb, 1, none⟩) GE (.int .i64 nc)).setCell (p := ⟨tb, 2, none⟩) GE (.int .i64 na)
        clear T GE BD
        refine wpAnyH_ready (rs := [11]) (by kernel_rfl) (by simp) ?_
        refine AllReadyH.cons (o := _) rfl (fun K hK => ?_) AllReadyH.nil
        go_simp
        refine hK.out _ _ ⟨cell_later BD3 f0, cell_later BD3 f1, cell_later BD3 f2, cell_later BD3 f3, cell_later BD3 f4, cell_later BD3 f5⟩ (fun hHeld => ?_)
        clear hK
        refine wpAnyH_ready (rs := [12]) (by kernel_rfl) (by simp) ?_
        refine AllReadyH.cons (o := _) rfl (fun K hK => ?_) AllReadyH.nil
        go_simp
        refine hK.out _ _ ⟨cell_later BD3 f0, cell_later BD3 f1, cell_later BD3 f2, cell_later BD3 f3, cell_later BD3 f4, cell_later BD3 f5⟩ (fun hHeld => ?_)
        clear hK
        refine wpAnyH_done (by kernel_rfl) ?_ _
        have HBD := hide BD3
        clear BD3
        go_wp2_with fail
        go_meet
        case rel => exact ⟨tb, rfl, rfl, HTT, HBD, HGE⟩
      case rest =>
      obtain ⟨tb, rfl, rfl, HT, HBD, HTS⟩ := hcut
      rename World => w4
      clear HH HNX f0 f1 f2 f3 f4 f5
      have HI3R := hide HI3.out.rep
      have HI4 := hide (HI3.out.later HBD.out)
      have HO4 := hide (ownsRow_later (ownsRow_later (ownsRow_later HO.out HBX.out) HB3.out) HBD.out)
      have hBl : B ≤ w1.heap.size := by rw [HBB.out]; exact Nat.le_refl _
      have HB4 : Hid (Below B w1 w4) := hide (((HB.out.trans (HBX.out.mono (Nat.le_trans hBl HB.out.size))).trans (HB3.out.mono (Nat.le_trans hBl (Nat.le_trans HB.out.size HBX.out.size)))).trans (HBD.out.mono (Nat.le_trans hBl (Nat.le_trans HB.out.size (Nat.le_trans HBX.out.size HB3.out.size)))))
      have hltr : k < rs.length := by rw [HM.out]; exact hlt
      have hNk : N ≤ k := by
        rw [← HN.out]
        exact Nat.le_trans (outsC_len kd fn ar _ _) (by rw [List.length_take]; omega)
      clear HI3 HBD HBX HB3 HB HO HBW3 HBW
      by_cases hq : sb = true
      · subst hq
        have HS2 : Hid (stepC kd fn ar (stateC kd fn ar s0 (rs.take k)) ⟨ky, vl⟩ ky = (nc, na)) := hide (by rw [HSS.out, HST1.out, if_pos rfl])
        have HKD := hide (keep_allJ HI4.out hltr HX.out HII.out HE.out HKE.out HKI.out HNC.out HS2.out)
        have HT0 := HT.out
        have c0 : w4.cell? ⟨tb, 0, none⟩ = some (.int .i64 ky) := by simp [World.cell?, HT0]
        have c1 : w4.cell? ⟨tb, 1, none⟩ = some (.int .i64 nc) := by simp [World.cell?, HT0]
        have c2 : w4.cell? ⟨tb, 2, none⟩ = some (.int .i64 na) := by simp [World.cell?, HT0]
        clear HT0
        go_wp2_with fail
        refine HKD.out.mono ?_
        rintro _ w5 ⟨v5, L5, rfl, i5, n5⟩
        have t5 := HI3R.out.sparesBoxJ HTS.out HT.out n5
        have o5 := HI4.out.rep.sparesJ HO4.out n5
        have b5 : Below B w1 w5 := HB4.out.trans (n5.below (Nat.le_trans hBl HB4.out.size) (fun i e => (HI4.out.rep.typesJ e).1))
        have bv5 : Below V.heap.size V w5 := HB1.out.trans (b5.mono (by rw [← HBB.out]; exact HB1.out.size))
        have u5 := below_box bv5 HU3.out
        have g0 : w5.cell? ⟨sB, 0, none⟩ = some (.int .i64 kd) := by simp [World.cell?, u5]
        have g1 : w5.cell? ⟨sB, 1, none⟩ = some (.int .i64 pt) := by simp [World.cell?, u5]
        have g2' : w5.cell? ⟨sB, 2, none⟩ = some (.int .i64 fn) := by simp [World.cell?, u5]
        have g3 : w5.cell? ⟨sB, 3, none⟩ = some (.int .i64 ar) := by simp [World.cell?, u5]
        have g4 : w5.cell? ⟨sB, 4, none⟩ = some (.slice ip n ic) := by simp [World.cell?, u5]
        have k0 : w5.cell? ⟨tb, 0, none⟩ = some (.int .i64 ky) := by simp [World.cell?, t5]
        have k1 : w5.cell? ⟨tb, 1, none⟩ = some (.int .i64 nc) := by simp [World.cell?, t5]
        have k2 : w5.cell? ⟨tb, 2, none⟩ = some (.int .i64 na) := by simp [World.cell?, t5]
        have HTL := hide (tell_any (kd := kd) (pt := pt) (fn := fn) (ar := ar) (key := ky) (cnt := nc) (acc := na) (ip := ip) (n := n) (ic := ic) (sb := true) o5 (Nat.le_trans hBl b5.size) (by omega))
        have HI5 := hide i5
        have HO5 := hide o5
        have HB5 := hide b5
        clear t5 o5 b5 bv5 u5 i5 n5 c0 c1 c2 HKD
        go_wp2_with fail
        refine HTL.out.mono ?_
        rintro _ w6 ⟨p6, c6, rfl, o6, n6⟩
        have HI6 := hide (HI5.out.clear HO5.out n6 (fun _ h => h))
        have HB6 : Hid (Below B w1 w6) := hide (HB5.out.trans (n6.below (Nat.le_trans hBl HB5.out.size) (fun i e => (HO5.out.lt i e).1)))
        have HOS : Hid (outsC kd fn ar s0 (rs.take (k + 1)) = outsC kd fn ar s0 (rs.take k) ++ tellC kd true ky na) := by
          have h9 := HX.out
          rw [getElem!_pos rs k hltr] at h9
          refine hide ?_
          rw [List.take_succ_eq_append_getElem hltr, h9, outsC_snoc, HSS.out, HOC.out]
        have HN6 : Hid ((outsC kd fn ar s0 (rs.take (k + 1))).length = N + (tellC kd true ky na).length) := hide (by rw [HOS.out, List.length_append, HN.out])
        have HO6 := hide o6
        rw [← HOS.out] at HO6
        obtain ⟨N6, hN6⟩ : ∃ N6, N + (tellC kd true ky na).length = N6 := ⟨_, rfl⟩
        rw [hN6] at HO6 HN6 ⊢
        clear o6 n6 hN6 HTL g0 g1 g2' g3 g4 k0 k1 k2
        go_wp2
        exact ⟨⟨k + 1, p6, c6, N6, L5, by omega, by go_num, rfl, HN6, HI6, HO6, HB6⟩, by simp [intOf]; omega⟩
      · have hq2 : sb = false := by simpa using hq
        subst hq2
        have HS2 : Hid (stepC kd fn ar (stateC kd fn ar s0 (rs.take k)) ⟨ky, vl⟩ ky = (0, 0)) := hide (by rw [HSS.out, HST1.out, if_neg (by decide)])
        clear hq
        have HKD := hide (drop_allJ HI4.out hltr HX.out HII.out HE.out HKE.out HS2.out)
        have HT0 := HT.out
        have c0 : w4.cell? ⟨tb, 0, none⟩ = some (.int .i64 ky) := by simp [World.cell?, HT0]
        have c1 : w4.cell? ⟨tb, 1, none⟩ = some (.int .i64 nc) := by simp [World.cell?, HT0]
        have c2 : w4.cell? ⟨tb, 2, none⟩ = some (.int .i64 na) := by simp [World.cell?, HT0]
        clear HT0
        go_wp2_with fail
        refine HKD.out.mono ?_
        rintro _ w5 ⟨v5, L5, rfl, i5, n5⟩
        have t5 := HI3R.out.sparesBoxJ HTS.out HT.out n5
        have o5 := HI4.out.rep.sparesJ HO4.out n5
        have b5 : Below B w1 w5 := HB4.out.trans (n5.below (Nat.le_trans hBl HB4.out.size) (fun i e => (HI4.out.rep.typesJ e).1))
        have bv5 : Below V.heap.size V w5 := HB1.out.trans (b5.mono (by rw [← HBB.out]; exact HB1.out.size))
        have u5 := below_box bv5 HU3.out
        have g0 : w5.cell? ⟨sB, 0, none⟩ = some (.int .i64 kd) := by simp [World.cell?, u5]
        have g1 : w5.cell? ⟨sB, 1, none⟩ = some (.int .i64 pt) := by simp [World.cell?, u5]
        have g2' : w5.cell? ⟨sB, 2, none⟩ = some (.int .i64 fn) := by simp [World.cell?, u5]
        have g3 : w5.cell? ⟨sB, 3, none⟩ = some (.int .i64 ar) := by simp [World.cell?, u5]
        have g4 : w5.cell? ⟨sB, 4, none⟩ = some (.slice ip n ic) := by simp [World.cell?, u5]
        have k0 : w5.cell? ⟨tb, 0, none⟩ = some (.int .i64 ky) := by simp [World.cell?, t5]
        have k1 : w5.cell? ⟨tb, 1, none⟩ = some (.int .i64 nc) := by simp [World.cell?, t5]
        have k2 : w5.cell? ⟨tb, 2, none⟩ = some (.int .i64 na) := by simp [World.cell?, t5]
        have HTL := hide (tell_any (kd := kd) (pt := pt) (fn := fn) (ar := ar) (key := ky) (cnt := nc) (acc := na) (ip := ip) (n := n) (ic := ic) (sb := false) o5 (Nat.le_trans hBl b5.size) (by omega))
        have HI5 := hide i5
        have HO5 := hide o5
        have HB5 := hide b5
        clear t5 o5 b5 bv5 u5 i5 n5 c0 c1 c2 HKD
        go_wp2_with fail
        refine HTL.out.mono ?_
        rintro _ w6 ⟨p6, c6, rfl, o6, n6⟩
        have HI6 := hide (HI5.out.clear HO5.out n6 (fun _ h => h))
        have HB6 : Hid (Below B w1 w6) := hide (HB5.out.trans (n6.below (Nat.le_trans hBl HB5.out.size) (fun i e => (HO5.out.lt i e).1)))
        have HOS : Hid (outsC kd fn ar s0 (rs.take (k + 1)) = outsC kd fn ar s0 (rs.take k) ++ tellC kd false ky na) := by
          have h9 := HX.out
          rw [getElem!_pos rs k hltr] at h9
          refine hide ?_
          rw [List.take_succ_eq_append_getElem hltr, h9, outsC_snoc, HSS.out, HOC.out]
        have HN6 : Hid ((outsC kd fn ar s0 (rs.take (k + 1))).length = N + (tellC kd false ky na).length) := hide (by rw [HOS.out, List.length_append, HN.out])
        have HO6 := hide o6
        rw [← HOS.out] at HO6
        obtain ⟨N6, hN6⟩ : ∃ N6, N + (tellC kd false ky na).length = N6 := ⟨_, rfl⟩
        rw [hN6] at HO6 HN6 ⊢
        clear o6 n6 hN6 HTL g0 g1 g2' g3 g4 k0 k1 k2
        go_wp2
        exact ⟨⟨k + 1, p6, c6, N6, L5, by omega, by go_num, rfl, HN6, HI6, HO6, HB6⟩, by simp [intOf]; omega⟩
    · obtain rfl : k = m := by omega
      have hBl : B ≤ w1.heap.size := by rw [HBB.out]; exact Nat.le_refl _
      have hT : rs.take k = rs := List.take_of_length_le (by rw [HM.out]; exact Nat.le_refl _)
      have hI := HI.out
      have hN := HN.out
      have hO := HO.out
      have hE := hI.ki
      rw [hT] at hN hO hE
      obtain ⟨kk, hkk⟩ : ∃ kk, mrg 0 L.old L.gone (L.es.filter EN.on) = kk := ⟨_, rfl⟩
      have hfin : SKp (stateC kd fn ar s0 rs) kk := by rw [← hkk]; exact hE.fin
      obtain ⟨KL, hKL⟩ : ∃ K, kk.length = K := ⟨_, rfl⟩
      have hBr : B ≤ wr.heap.size := Nat.le_trans hBl HB.out.size
      have hes := hI.rep.es
      rw [HPE.out] at hes
      have hge : B ≤ ge := (hes.lt ge rfl).1
      have HLS : Hid (∀ X, Below wr.heap.size wr X → Calls Try.prog 18 #[.pointer (some ⟨lb, 0, none⟩)] X fun e w' => ∃ p c, e = .returned (.slice p KL c) ∧ w'.ownsRow B 43 3 (.slice p KL c) KL (kk.flatMap KS.cells) ∧ Only (· = ge) X w') := hide (fun X hX => list_old (hI.rep.later hX) HPE.out (Nat.le_trans hBr hX.size) hI.few hI.oldn hI.ki.gl hkk hKL)
      have HKL := hide hKL
      have HFIN := hide hfin
      have HNN := hide hN
      have BD : Below wr.heap.size wr wr.drew := (Below.refl _ wr).drew
      have HOX := hide (ownsRow_later hO BD)
      have HEX := hide (ownsRow_later hes BD)
      have HBX : Hid (Below B w1 wr.drew) := hide (HB.out.trans (BD.mono hBr))
      have bvr : Below V.heap.size V wr := HB1.out.trans (HB.out.mono (by rw [← HBB.out]; exact HB1.out.size))
      have u4 := below_box bvr HU4.out
      have f1 : wr.cell? ⟨sB + 1, 1, none⟩ = some (.int .i64 tn) := by simp [World.cell?, u4]
      clear hT hI hN hO hE hkk hfin hKL hes bvr u4 HI HO HN
      go_upto_region 20 with fail
      refine wp_region_held_drew (S := fun w' => w'.cell? ⟨sB + 1, 1, none⟩ = some (.int .i64 tn)) (by kernel_rfl) f1 (fun hHeld => ?_)
      refine wpAnyH_take (i := 0) (oi := _) (v := ?_) rfl (by kernel_rfl) (by kernel_rfl) (by kernel_rfl) (fun _ _ _ h => h) (Or.inl ⟨by rfl, ?_⟩) (by assumption) ?_
      rotate_left
      · intro w hSw
        (try dsimp only at hSw)
        go_simp
        all_goals with_reducible rfl
      simp only [Act.put, List.setIfInBounds_toArray] --TAKE 15
      refine wpAnyH_take (i := 2) (oi := _) (v := ?_) rfl (by kernel_rfl) (by kernel_rfl) (by kernel_rfl) (fun _ _ _ h => h) (Or.inl ⟨by rfl, ?_⟩) (by assumption) ?_
      rotate_left
      · intro w hSw
        (try dsimp only at hSw)
        go_simp
        all_goals with_reducible rfl
      simp only [Act.put] --TAKE 16
      refine wpAnyH_take (i := 3) (oi := _) (v := ?_) rfl (by kernel_rfl) (by kernel_rfl) (by kernel_rfl) (fun _ _ _ h => h) (Or.inl ⟨by rfl, ?_⟩) (by assumption) ?_
      rotate_left
      · intro w hSw
        (try dsimp only at hSw)
        go_simp
        all_goals with_reducible rfl
      simp only [Act.put] --TAKE 17
      refine wpAnyH_take (i := 5) (oi := _) (v := ?_) rfl (by kernel_rfl) (by kernel_rfl) (by kernel_rfl) (fun _ _ _ h => h) (Or.inl ⟨by rfl, ?_⟩) (by assumption) ?_
      rotate_left
      · intro w hSw
        (try dsimp only at hSw)
        go_simp
        all_goals with_reducible rfl
      simp only [Act.put] --TAKE 18
      refine wpAnyH_ready (rs := [1]) (by kernel_rfl) (by simp) ?_
      refine AllReadyH.cons (o := _) rfl (fun K hK => ?_) AllReadyH.nil
      go_simp
      refine (HLS.out _ BD).mono ?_
      rintro _ w7 ⟨pk, ck, rfl, o7, n7⟩
      have b7 : Below B w1 w7 := HBX.out.trans (n7.below (Nat.le_trans hBl HBX.out.size) (fun i e => by have e' : i = ge := e; omega))
      have ho7 := row_keeps HOX.out HEX.out (by decide) n7
      have bv7 : Below V.heap.size V w7 := HB1.out.trans (b7.mono (by rw [← HBB.out]; exact HB1.out.size))
      have u4 := below_box bv7 HU4.out
      have u6 : w7.heap[sB + 1 + 1]? = some (.cells #[.slice none 0 0, .int .i64 0] 29 (0, 0)) := below_box bv7 HU6.out
      have j1 : w7.cell? ⟨sB + 1, 1, none⟩ = some (.int .i64 tn) := by simp [World.cell?, u4]
      have j2 : w7.cell? ⟨sB + 1 + 1, 0, none⟩ = some (.slice none 0 0) := by simp [World.cell?, u6]
      have j3 : w7.cell? ⟨sB + 1 + 1, 1, none⟩ = some (.int .i64 0) := by simp [World.cell?, u6]
      have j4 : w7.frozen? ⟨sB + 1 + 1, 0, none⟩ = false := by simp [World.frozen?, u6]
      have j5 : w7.frozen? ⟨sB + 1 + 1, 1, none⟩ = false := by simp [World.frozen?, u6]
      have HZ : Hid (((w7.setCell ⟨sB + 1 + 1, 0, none⟩ (.slice pk KL ck)).setCell ⟨sB + 1 + 1, 1, none⟩ (.int .i64 tn)).heap[sB + 1 + 1]? = some (.cells #[.slice pk KL ck, .int .i64 tn] 29 (0, 0))) := hide (heap_set_sameO (heap_set_sameO u6 0 _) 1 _)
      have hon : Only (· = sB + 1 + 1) w7 ((w7.setCell ⟨sB + 1 + 1, 0, none⟩ (.slice pk KL ck)).setCell ⟨sB + 1 + 1, 1, none⟩ (.int .i64 tn)) := (Only.set (F := (· = sB + 1 + 1)) w7 _ _ _ rfl).trans (Only.set (F := (· = sB + 1 + 1)) _ _ _ _ rfl)
      have j6 := hon.cell j1 (fun e => by have e' : sB + 1 = sB + 1 + 1 := e; omega)
      have hWB : W.heap.size ≤ B := by rw [← HBB.out]; exact Nat.le_trans HBV.out.size HB1.out.size
      have hlt6 : sB + 1 + 1 < B := by
        have h9 := (Array.getElem?_eq_some_iff.1 HU6.out).1
        rw [← HBB.out]
        exact Nat.lt_of_lt_of_le h9 HB1.out.size
      have HO7 : Hid (((w7.setCell ⟨sB + 1 + 1, 0, none⟩ (.slice pk KL ck)).setCell ⟨sB + 1 + 1, 1, none⟩ (.int .i64 tn)).ownsRow W.heap.size 43 3 (.slice pk KL ck) KL (kk.flatMap KS.cells)) := hide (ownsRow_base (ownsRow_only o7 hon (fun b hb e => by have e' : b = sB + 1 + 1 := e; have := (o7.lt b hb).1; omega)) hWB)
      have HP7 : Hid (((w7.setCell ⟨sB + 1 + 1, 0, none⟩ (.slice pk KL ck)).setCell ⟨sB + 1 + 1, 1, none⟩ (.int .i64 tn)).ownsRow W.heap.size 41 3 (.slice po N co) N ((outsC kd fn ar s0 rs).flatMap PU.cells)) := hide (ownsRow_base (ownsRow_only ho7 hon (fun b hb e => by have e' : b = sB + 1 + 1 := e; have := (ho7.lt b hb).1; omega)) hWB)
      have hW7 : Below W.heap.size W w7 := HBV.out.trans (bv7.mono HBV.out.size)
      have HB7 : Hid (Below W.heap.size W ((w7.setCell ⟨sB + 1 + 1, 0, none⟩ (.slice pk KL ck)).setCell ⟨sB + 1 + 1, 1, none⟩ (.int .i64 tn))) := hide ((hW7.setCell (p := ⟨sB + 1 + 1, 0, none⟩) (by have := HSB.out; show _ ≤ sB + 1 + 1; omega) _).setCell (p := ⟨sB + 1 + 1, 1, none⟩) (by have := HSB.out; show _ ≤ sB + 1 + 1; omega) _)
      clear o7 n7 b7 ho7 bv7 u4 u6 hon hW7
      go_wp2_with fail
      refine hK.out _ _ j1 (fun hHeld => ?_)
      clear hK
      refine wpAnyH_take (i := 4) (oi := _) (v := ?_) rfl (by kernel_rfl) (by kernel_rfl) (by kernel_rfl) (fun _ _ _ h => h) (Or.inl ⟨by rfl, ?_⟩) (by assumption) ?_
      rotate_left
      · intro w hSw
        (try dsimp only at hSw)
        go_simp
        all_goals with_reducible rfl
      simp only [Act.put, List.setIfInBounds_toArray] --TAKE 19
      refine wpAnyH_ready (rs := [6]) (by kernel_rfl) (by simp) ?_
      refine AllReadyH.cons (o := _) rfl (fun K hK => ?_) AllReadyH.nil
      go_simp
      refine hK.out _ _ j6 (fun hHeld => ?_)
      clear hK
      refine wpAnyH_ready (rs := [7]) (by kernel_rfl) (by simp) ?_
      refine AllReadyH.cons (o := _) rfl (fun K hK => ?_) AllReadyH.nil
      go_simp
      refine hK.out _ _ j6 (fun hHeld => ?_)
      clear hK
      refine wpAnyH_done (by kernel_rfl) ?_ _
      go_wp2
      refine bodyPost_ret (results_cell_bool rfl _ _ (sB + 1 + 1) 29 _ _ _ rfl HZ.out Try.underlying29 rfl (by kernel_rfl)) rfl ?_
      exact ⟨pk, ck, KL, po, co, N, kk, rfl, HFIN.out, HKL.out, HNN.out, HO7.out, HP7.out, HB7.out⟩
end Go.Proofs.Ytcabfohmimglpaa
