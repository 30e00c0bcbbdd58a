/-
  From, plainly: which things are a sink's; and a map of transactions one longer. No conditions beyond what each says.
-/
import Derived.Test.YtboofnkajjnmeaaSkn
namespace Go.Proofs.Ytboofnkajjnmeaa
open Go.RowKit

def ris (l : List Int) : Prop := l.Pairwise (· < ·) ∧ ∀ x ∈ l, posI x
instance (l : List Int) : Decidable (ris l) := by unfold ris; infer_instance
structure FitO (n : Int) (s : SK) : Prop where
  room : s.pre.length ≤ 8
  may : ∀ t ∈ s.pre, mayC n t ∧ t.ep = s.reg ∧ t.id ∉ s.done
  ids : ris (s.pre.map TX.id)
def unt (s : SK) : Prop := s.out = [] ∧ s.done = [] ∧ s.pre = [] ∧ ∀ x ∈ s.vec, x = 0
instance (s : SK) : Decidable (unt s) := by unfold unt; infer_instance
structure Fit (n : Int) (s : SK) : Prop where
  reg : s.reg = 0 ∨ posI s.reg
  out : s.out.length ≤ 4096
  vec : vecI n s.vec
  done : ris s.done
  pre : FitO n s
  zero : s.reg = 0 → unt s
theorem Fit.ok {n : Int} {s : SK} (h : Fit n s) (h1 : 1 ≤ n) (h4 : n ≤ 4) : okS s := by
  have hv : (s.vec.length : Int) = n := h.vec.1
  refine ⟨?_, h.out, by omega, h.vec.2, h.done, h.pre.room, ?_, fun t ht => ?_, fun h0 => ?_⟩
  · rcases h.reg with h0 | h0
    · rw [h0]; exact ⟨by omega, by omega⟩
    · exact ⟨by have := h0.1; omega, h0.2⟩
  · have h9 := h.pre.ids.1
    rw [List.pairwise_map] at h9
    exact h9
  · rw [hv]
    exact h.pre.may t ht
  · obtain ⟨a, b, c, d⟩ := h.zero h0
    exact ⟨a, b, c, d⟩
theorem okS.first {s : SK} (h : okS s) (j : Nat) : okS ⟨s.reg, s.out, s.vec, s.done, s.pre.take j⟩ :=
  ⟨h.reg, h.out, h.parts, h.vec, h.done, by show (s.pre.take j).length ≤ 8; rw [List.length_take]; have := h.room; omega, h.pre.sublist (List.take_sublist j s.pre), fun t ht => h.may t (List.mem_of_mem_take ht), fun h0 => by
    obtain ⟨a, b, c, d⟩ := h.zero h0
    exact ⟨a, b, by show s.pre.take j = []; rw [c]; simp, d⟩⟩
theorem no_find {s : SK} {i : Int} (h : ∀ t ∈ s.pre, t.id ≠ i) : findC s i = none := by
  unfold findC
  rw [List.find?_eq_none]
  intro t ht
  simpa using h t ht
theorem PS.addT {B : Nat} {W W1 : World} {k : PK} {ep id bg : Int} {rs : List RC} {vs : List Int} {p q : Option Addr} {c d rn vn : Nat} (h : PS B W k) (hb : Below W.heap.size W W1)
    (o1 : W1.ownsRow W.heap.size 49 2 (.slice p rn c) rn (rs.flatMap RC.cells)) (o2 : W1.ownsRow W.heap.size 2 1 (.slice q vn d) vn (vs.flatMap intCells)) (hrn : rs.length = rn) (hvn : vs.length = vn)
    (he : ep = k.reg) (hm : mayC k.vec.length ⟨ep, id, bg, rs, vs⟩) (hd : id ∉ k.done) (hf : findC k.sk id = none) (hl : k.xs.length < 8) :
    ∃ w8, (Instr.mapUpdate 61 (.map (some k.mb)) (keyV ep id) (.agg #[.int .i64 ep, .int .i64 id, .int .i64 bg, .slice p rn c, .slice q vn d])).run Try.prog W1 = .ok () w8 ∧
      PS B w8 ⟨k.b, k.mb, k.op, k.oc, k.vp, k.vc, k.dp, k.dc, k.reg, k.out, k.vec, k.done, insP ⟨⟨ep, id, bg, rs, vs⟩, p, c, q, d⟩ k.xs⟩ ∧ Only (· = k.mb) W1 w8 := by
  have hps := h.later hb
  have hfn : findP k.xs id = none := by
    rw [find_P] at hf
    cases h9 : findP k.xs id with
    | none => rfl
    | some x => rw [h9] at hf; cases hf
  obtain ⟨w8, hup, hm8, ho8⟩ := hps.map.put hps.named (x := ⟨⟨ep, id, bg, rs, vs⟩, p, c, q, d⟩) he hm.1 hm.2.1 hfn (by unfold maxLen; omega)
  simp only [TP.row, hrn, hvn] at hup
  refine ⟨w8, hup, ?_, ho8⟩
  have hold : ∀ i, k.blk i → i < W.heap.size := fun i hi => (h.lt hi).2
  have hge : B ≤ W.heap.size := by have := h.lt (.inl rfl); omega
  have hx1 : ∀ i, InB p i → W.heap.size ≤ i := fun i hi => own_block_base o1 (InB.to hi)
  have hx2 : ∀ i, InB q i → W.heap.size ≤ i := fun i hi => own_block_base o2 (InB.to hi)
  have ht1 : TO B W1 ⟨⟨ep, id, bg, rs, vs⟩, p, c, q, d⟩ := ⟨by show W1.ownsRow B _ 2 (.slice p rs.length c) rs.length _; rw [hrn]; exact ownsRow_base o1 hge, by show W1.ownsRow B _ 1 (.slice q vs.length d) vs.length _; rw [hvn]; exact ownsRow_base o2 hge⟩
  have ht8 : ∀ x ∈ k.xs, TO B w8 x := fun x hx => (hps.pre x hx).only ho8 (fun i hi => row_map (hps.pre x hx).r hps.map i hi) (fun i hi => row_map (hps.pre x hx).v hps.map i hi)
  refine ⟨ho8.obj hps.box (fun e9 => hps.map.box hps.box e9.symm), ?_, ownsRow_only hps.out ho8 (fun i hi => row_map hps.out hps.map i (InB.of hi)), ownsRow_only hps.vec ho8 (fun i hi => row_map hps.vec hps.map i (InB.of hi)), ownsRow_only hps.done ho8 (fun i hi => row_map hps.done hps.map i (InB.of hi)), fun x hx => ?_, ⟨hps.ap.1, fun x hx => ?_⟩, hps.ge, ?_⟩
  · have h9 := hm8 (insP ⟨⟨ep, id, bg, rs, vs⟩, p, c, q, d⟩ k.xs) (insP_perm _ _)
    have h8 : (insP (⟨⟨ep, id, bg, rs, vs⟩, p, c, q, d⟩ : TP) k.xs).length = k.xs.length + 1 := (insP_perm _ _).length_eq
    show MapT w8 k.mb (insP (⟨⟨ep, id, bg, rs, vs⟩, p, c, q, d⟩ : TP) k.xs).length _
    rw [h8]
    exact h9
  · rcases List.mem_cons.1 ((insP_perm _ _).mem_iff.1 hx) with rfl | hx
    · exact ht1.only ho8 (fun i hi => row_map ht1.r hps.map i hi) (fun i hi => row_map ht1.v hps.map i hi)
    · exact ht8 x hx
  · rcases List.mem_cons.1 ((insP_perm _ _).mem_iff.1 hx) with rfl | hx
    · exact ⟨fun i hi hj => by have := hx1 i hi; have := hold i (.inr (.inr (.inl hj))); omega, fun i hi hj => by have := hx2 i hi; have := hold i (.inr (.inr (.inr (.inr (.inl hj))))); omega⟩
    · exact hps.ap.2 x hx
  · have h9 : okS k.sk := hps.ok
    have h8 := ins_ok h9 (t := ⟨ep, id, bg, rs, vs⟩) hm he (by unfold doneC; rw [decide_eq_false_iff_not]; exact fun h7 => hd h7.2) hf (by show (k.xs.map TP.t).length < 8; rw [List.length_map]; exact hl)
    show okS ⟨k.reg, k.out, k.vec, k.done, (insP _ k.xs).map TP.t⟩
    rw [insP_map]
    exact h8
end Go.Proofs.Ytboofnkajjnmeaa
