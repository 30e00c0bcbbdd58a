/-
  What All does to one list of records and then to another one, plainly and of the program. The conditions: lengths.
-/
import Derived.Test.YtcabfohmimglpaaOak
import Derived.Test.YtcabfohmimglpaaOjp
import Derived.Test.YtcabfohmimglpaaOst
namespace Go.Proofs.Ytcabfohmimglpaa
open Go.RowKit

theorem rise_eq : ∀ {a b : List KS}, (a.map KS.key).Pairwise (· < ·) → (b.map KS.key).Pairwise (· < ·) → (∀ x ∈ a, x ∈ b) → (∀ x ∈ b, x ∈ a) → a = b
  | [], [], _, _, _, _ => rfl
  | [], y :: b, _, _, _, h => by have := h y (by simp); cases this
  | x :: a, [], _, _, h, _ => by have := h x (by simp); cases this
  | x :: a, y :: b, ha, hb, h1, h2 => by
    rw [List.map_cons, List.pairwise_cons] at ha hb
    have hax : ∀ z ∈ a, x.key < z.key := fun z hz => ha.1 _ (List.mem_map_of_mem hz)
    have hby : ∀ z ∈ b, y.key < z.key := fun z hz => hb.1 _ (List.mem_map_of_mem hz)
    have e : x = y := by
      rcases List.mem_cons.1 (h1 x (by simp)) with e | e
      · exact e
      · rcases List.mem_cons.1 (h2 y (by simp)) with e2 | e2
        · exact e2.symm
        · have := hby x e
          have := hax y e2
          omega
    subst e
    congr 1
    refine rise_eq ha.2 hb.2 (fun z hz => ?_) (fun z hz => ?_)
    · rcases List.mem_cons.1 (h1 z (by simp [hz])) with e | e
      · have := hax z hz
        rw [e] at this
        omega
      · exact e
    · rcases List.mem_cons.1 (h2 z (by simp [hz])) with e | e
      · have := hby z hz
        rw [e] at this
        omega
      · exact e
theorem SKp.one {s : ST} {a b : List KS} (h1 : SKp s a) (h2 : SKp s b) : a = b := by
  have key : ∀ {a b : List KS}, SKp s a → SKp s b → ∀ x ∈ a, x ∈ b := fun {a b} h1 h2 x hx => by
    obtain ⟨e1, e2⟩ := h1.each x hx
    obtain ⟨y, hy, hk⟩ := h2.all x.key (by rw [e1]; exact e2)
    obtain ⟨f1, _⟩ := h2.each y hy
    rw [hk, e1] at f1
    obtain ⟨yk, yc, ya⟩ := y
    obtain ⟨xk, xc, xa⟩ := x
    simp only [Prod.mk.injEq] at f1 hk
    obtain ⟨rfl, rfl⟩ := f1
    subst hk
    exact hy
  exact rise_eq h1.rise h2.rise (key h1 h2) (key h2 h1)
theorem sk_fin {s : ST} {ks : List Int} (hp : ks.Pairwise (· < ·)) (h : ∀ k, (s k).1 ≠ 0 → k ∈ ks) : SKp s (finC s ks) := by
  refine ⟨?_, fun x hx => ?_, fun k hk => ?_⟩
  · unfold finC
    rw [List.map_map]
    have e : (ks.filter (fun k => decide ((s k).1 ≠ 0))).map (KS.key ∘ fun k => (⟨k, (s k).1, (s k).2⟩ : KS)) = ks.filter (fun k => decide ((s k).1 ≠ 0)) := List.map_id'' (fun _ => rfl) _
    rw [e]
    exact hp.filter _
  · unfold finC at hx
    rw [List.mem_map] at hx
    obtain ⟨k, hk, rfl⟩ := hx
    have := (List.mem_filter.1 hk).2
    exact ⟨rfl, by simpa using this⟩
  · refine ⟨⟨k, (s k).1, (s k).2⟩, ?_, rfl⟩
    unfold finC
    rw [List.mem_map]
    exact ⟨k, List.mem_filter.2 ⟨h k hk, by simpa using hk⟩, rfl⟩
theorem state_touch (kd fn ar : Int) : ∀ (rs : List RC) (s : ST) (k : Int), (stateC kd fn ar s rs k).1 ≠ 0 → (s k).1 ≠ 0 ∨ k ∈ rs.map RC.key
  | [], _, _, h => .inl h
  | r :: rs, s, k, h => by
    rcases state_touch kd fn ar rs (stepC kd fn ar s r) k h with h1 | h1
    · unfold stepC at h1
      by_cases e : k = r.key
      · exact .inr (by simp [e])
      · rw [if_neg e] at h1
        exact .inl h1
    · exact .inr (by rw [List.map_cons]; exact List.mem_cons_of_mem _ h1)
theorem sk_prog (kd fn ar : Int) (rs : List RC) : SKp (stateC kd fn ar ST.none rs) (finC (stateC kd fn ar ST.none rs) (keysC (rs.map RC.key))) :=
  sk_fin (keysC_facts _).1 (fun k hk => ((keysC_facts _).2 k).2 (by
    rcases state_touch kd fn ar rs ST.none k hk with h | h
    · exact absurd rfl h
    · exact h))
theorem state_app (kd fn ar : Int) (s : ST) (a b : List RC) : stateC kd fn ar s (a ++ b) = stateC kd fn ar (stateC kd fn ar s a) b := by unfold stateC; rw [List.foldl_append]
theorem outs_app (kd fn ar : Int) : ∀ (a : List RC) (s : ST) (b : List RC), outsC kd fn ar s (a ++ b) = outsC kd fn ar s a ++ outsC kd fn ar (stateC kd fn ar s a) b
  | [], s, b => rfl
  | r :: a, s, b => by
    show outC kd fn ar s r ++ outsC kd fn ar (stepC kd fn ar s r) (a ++ b) = (outC kd fn ar s r ++ outsC kd fn ar (stepC kd fn ar s r) a) ++ _
    rw [outs_app kd fn ar a _ b, List.append_assoc]
    rfl
/-- What is kept and told behind some records, from nothing. -/
def Did (kd fn ar : Int) (rs : List RC) (ks : List KS) (us : List PU) : Prop :=
  (keepsC kd = true → SKp (stateC kd fn ar ST.none rs) ks ∧ us = outsC kd fn ar ST.none rs) ∧ (keepsC kd = false → ks = [] ∧ us = passAll kd fn ar rs)
theorem Did.one {kd fn ar : Int} {rs : List RC} {ks ks' : List KS} {us us' : List PU} (h : Did kd fn ar rs ks us) (h' : Did kd fn ar rs ks' us') : ks = ks' ∧ us = us' := by
  cases hk : keepsC kd with
  | true =>
    obtain ⟨a1, a2⟩ := h.1 hk
    obtain ⟨b1, b2⟩ := h'.1 hk
    exact ⟨a1.one b1, a2.trans b2.symm⟩
  | false =>
    obtain ⟨a1, a2⟩ := h.2 hk
    obtain ⟨b1, b2⟩ := h'.2 hk
    exact ⟨a1.trans b1.symm, a2.trans b2.symm⟩
theorem Did.len {kd fn ar : Int} {rs : List RC} {ks : List KS} {us : List PU} (h : Did kd fn ar rs ks us) : us.length ≤ rs.length := by
  cases hk : keepsC kd with
  | true => rw [(h.1 hk).2]; exact outsC_len _ _ _ _ _
  | false => rw [(h.2 hk).2]; exact passAll_len _ _ _ _
theorem fin_len (kd fn ar : Int) (rs : List RC) : (finC (stateC kd fn ar ST.none rs) (keysC (rs.map RC.key))).length ≤ rs.length := by
  unfold finC
  rw [List.length_map]
  refine Nat.le_trans (List.length_filter_le _ _) ?_
  have h9 := keysC_len (rs.map RC.key)
  rw [List.length_map] at h9
  exact h9
theorem fair_none : ST.fair ST.none := fun _ => ⟨Int.le_refl 0, by show (0 : Int) ≤ _; decide⟩
theorem zn_none : Zn ST.none := fun _ _ => rfl
/-- All from nothing. -/
def FirstAt (kd fn ar : Int) (rs : List RC) (W : World) (e : Ending) (w' : World) : Prop :=
  ∃ pk ck K po co N ks us, e = .returned (.tuple #[.agg #[.slice pk K ck, .int .i64 0], .slice po N co]) ∧ Did kd fn ar rs ks us ∧ ks.length = K ∧ us.length = N ∧ K ≤ rs.length ∧ (keepsC kd = false → pk = none ∧ ck = 0) ∧ w'.ownsRow W.heap.size 43 3 (.slice pk K ck) K (ks.flatMap KS.cells) ∧ w'.ownsRow W.heap.size 41 3 (.slice po N co) N (us.flatMap PU.cells) ∧ Below W.heap.size W w'
theorem all_first {W : World} {kd pt fn ar : Int} {ip p : Option Addr} {n ic c m : Nat} {rs : List RC} (ha : I6 ar) (h : RRow W p c rs) (hm : rs.length = m) (hb : m ≤ 1048576) (hri : ∀ r ∈ rs, r.fine) :
    Calls Try.prog 5 #[.agg #[.int .i64 kd, .int .i64 pt, .int .i64 fn, .int .i64 ar, .slice ip n ic], .agg #[.slice none 0 0, .int .i64 0], .slice p m c] W (FirstAt kd fn ar rs W) := by
  cases hk : keepsC kd with
  | true =>
    refine (all_keeps (tn := 0) hk h hm hb (fun r hr => (hri r hr).1)).mono ?_
    rintro _ w ⟨pk, ck, K, po, co, N, rfl, h1, h2, h3, h4, h5⟩
    exact ⟨pk, ck, K, po, co, N, _, _, rfl, ⟨fun _ => ⟨sk_prog kd fn ar rs, rfl⟩, fun e => (by rw [hk] at e; cases e)⟩, h1, h2, by rw [← h1]; exact fin_len kd fn ar rs, fun e => (by rw [hk] at e; cases e), h3, h4, h5⟩
  | false =>
    refine (all_pass (tn := 0) hk ha h hm hb hri).mono ?_
    rintro _ w ⟨po, co, N, rfl, h1, h2, h3⟩
    exact ⟨none, 0, 0, po, co, N, [], _, rfl, ⟨fun e => (by rw [hk] at e; cases e), fun _ => ⟨rfl, rfl⟩⟩, rfl, h1, Nat.zero_le _, fun _ => ⟨rfl, rfl⟩, World.ownsRow_nil _ _ _ _, h2, h3⟩
/-- All from what All kept. -/
def NextAt (kd fn ar : Int) (rs rs' : List RC) (us : List PU) (W : World) (e : Ending) (w' : World) : Prop :=
  ∃ pk ck K po co N ks us', e = .returned (.tuple #[.agg #[.slice pk K ck, .int .i64 0], .slice po N co]) ∧ Did kd fn ar (rs ++ rs') ks (us ++ us') ∧ ks.length = K ∧ us'.length = N ∧ w'.ownsRow W.heap.size 43 3 (.slice pk K ck) K (ks.flatMap KS.cells) ∧ w'.ownsRow W.heap.size 41 3 (.slice po N co) N (us'.flatMap PU.cells) ∧ Below W.heap.size W w'
theorem all_next {W : World} {kd pt fn ar : Int} {ip p kp : Option Addr} {n ic c m kc nk : Nat} {rs rs' : List RC} {ks : List KS} {us : List PU} (ha : I6 ar) (h : RRow W p c rs') (hm : rs'.length = m) (hb : m ≤ 1048576) (hri : ∀ r ∈ rs', r.fine) (hd : Did kd fn ar rs ks us) (hK : KRow W kp kc ks) (hnk : ks.length = nk) (hkb : nk ≤ 1048576) (hno : keepsC kd = false → kp = none ∧ kc = 0) :
    Calls Try.prog 5 #[.agg #[.int .i64 kd, .int .i64 pt, .int .i64 fn, .int .i64 ar, .slice ip n ic], .agg #[.slice kp nk kc, .int .i64 0], .slice p m c] W (NextAt kd fn ar rs rs' us W) := by
  cases hk : keepsC kd with
  | true =>
    obtain ⟨d1, d2⟩ := hd.1 hk
    refine (all_kept (tn := 0) hk h hm hb (fun r hr => (hri r hr).1) hK hnk hkb d1 (zn_state _ _ _ _ _ zn_none fair_none) (fair_state _ _ _ _ _ fair_none)).mono ?_
    rintro _ w ⟨pk, ck, K, po, co, N, kk, rfl, h0, h1, h2, h3, h4, h5⟩
    exact ⟨pk, ck, K, po, co, N, kk, _, rfl, ⟨fun _ => ⟨by rw [state_app]; exact h0, by rw [outs_app, d2]⟩, fun e => (by rw [hk] at e; cases e)⟩, h1, h2, h3, h4, h5⟩
  | false =>
    obtain ⟨d1, d2⟩ := hd.2 hk
    obtain ⟨rfl, rfl⟩ := hno hk
    subst d1
    obtain rfl : nk = 0 := hnk.symm
    refine (all_pass (tn := 0) hk ha h hm hb hri).mono ?_
    rintro _ w ⟨po, co, N, rfl, h1, h2, h3⟩
    exact ⟨none, 0, 0, po, co, N, [], _, rfl, ⟨fun e => (by rw [hk] at e; cases e), fun _ => ⟨rfl, by rw [d2]; unfold passAll; rw [List.flatMap_append]⟩⟩, rfl, h1, World.ownsRow_nil _ _ _ _, h2, h3⟩
end Go.Proofs.Ytcabfohmimglpaa
