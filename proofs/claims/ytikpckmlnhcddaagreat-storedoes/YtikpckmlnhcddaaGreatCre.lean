/-
  What Create does with a store that is up, where the name is free and there is room. The conditions: the store lies as stores do.
-/
import Derived.Test.YtikpckmlnhcddaaGreatWri
namespace Go.Proofs.YtikpckmlnhcddaaGreat
open Go.RowKit Go.Maps Go.ChangeMaps

def insF (x : MF) : List MF → List MF
  | [] => [x]
  | y :: r => if bytesBefore x.name y.name then x :: y :: r else y :: insF x r

theorem mem_insF {x y : MF} : ∀ {fs : List MF}, y ∈ insF x fs ↔ y = x ∨ y ∈ fs
  | [] => by simp [insF]
  | z :: r => by
    unfold insF
    split
    · simp
    · simp [mem_insF (fs := r)]
      constructor
      · rintro (h | h | h)
        · exact .inr (.inl h)
        · exact .inl h
        · exact .inr (.inr h)
      · rintro (h | h | h)
        · exact .inr (.inl h)
        · exact .inl h
        · exact .inr (.inr h)
theorem length_insF (x : MF) : ∀ fs : List MF, (insF x fs).length = fs.length + 1
  | [] => rfl
  | y :: r => by
    unfold insF
    split
    · rfl
    · simp [length_insF x r]
theorem ent_insF (x : MF) : ∀ fs : List MF, (insF x fs).map ent = DataW.insert (ent x) (fs.map ent)
  | [] => rfl
  | y :: r => by
    unfold insF
    simp only [List.map_cons, DataW.insert]
    have e : (ent x).1.before (ent y).1 = bytesBefore x.name y.name := rfl
    rw [e]
    split
    · rfl
    · simp [ent_insF x r]
theorem pair_insF {R : MF → MF → Prop} {x : MF} (hs : ∀ y z, R y z → R z y) : ∀ {fs : List MF}, (∀ y ∈ fs, R x y) → fs.Pairwise R → (insF x fs).Pairwise R
  | [], _, _ => by simp [insF]
  | y :: r, h, hp => by
    unfold insF
    have hp' := List.pairwise_cons.1 hp
    split
    · exact List.pairwise_cons.2 ⟨h, hp⟩
    · refine List.pairwise_cons.2 ⟨fun z hz => ?_, pair_insF hs (fun z hz => h z (by simp [hz])) hp'.2⟩
      rcases mem_insF.1 hz with rfl | hz
      · exact hs _ _ (h y (by simp))
      · exact hp'.1 z hz
theorem sorted_insF {x : MF} : ∀ {fs : List MF}, (∀ y ∈ fs, y.name ≠ x.name) → fs.Pairwise Bef → (insF x fs).Pairwise Bef
  | [], _, _ => by simp [insF]
  | y :: r, h, hp => by
    unfold insF
    have hp' := List.pairwise_cons.1 hp
    split
    · rename_i hb
      refine List.pairwise_cons.2 ⟨fun z hz => ?_, hp⟩
      simp at hz
      rcases hz with rfl | hz
      · exact hb
      · exact WideShapes.bytes_trans _ _ _ hb (hp'.1 z hz)
    · rename_i hb
      refine List.pairwise_cons.2 ⟨fun z hz => ?_, sorted_insF (fun z hz => h z (by simp [hz])) hp'.2⟩
      rcases mem_insF.1 hz with rfl | hz
      · rcases WideAt.bytes_total y.name z.name (h y (by simp)) with h' | h'
        · exact h'
        · exact absurd h' hb
      · exact hp'.1 z hz
theorem put_ent {fs : List MF} {x : MF} (h : ∀ f ∈ fs, f.name ≠ x.name) : (DataW.map (fs.map ent)).put (.string x.name) (.lit (.int .i64 x.fb)) = .map ((insF x fs).map ent) := by
  rw [DataW.put_eq, ent_insF]
  unfold putKey
  have e : (fs.map ent).filter (notKey (.string x.name)) = fs.map ent := by
    refine List.filter_eq_self.2 (fun p hp => ?_)
    obtain ⟨f, hf, rfl⟩ := List.mem_map.1 hp
    have := h f hf
    simp [notKey, ent, sameKey_str, this]
  rw [e]
  rfl

/-- A file that nobody wrote to. -/
def blank (n : List UInt8) (fb : Nat) : MF := ⟨n, [], [], fb, .slice none 0 0, .slice none 0 0⟩

theorem SRep.created {W w' : World} {sb mb pend turn : Nat} {left : Int} {fs : List MF} {up : Bool} (h : SRep W sb mb fs left pend turn up) {n : List UInt8} (hn : ∀ f ∈ fs, f.name ≠ n) 
    (hm : w'.ownsMap Tryz.prog 9 ptrElem mb (fs.length + 1) ((DataW.map (fs.map ent)).put (.string n) (.lit (.int .i64 (W.heap.size : Nat)))))
    (hg : (W.alloc (.cells #[.slice none 0 0, .slice none 0 0] 80 (0, 0))).grownBy w' (some mb)) : SRep w' sb mb (insF (blank n W.heap.size) fs) left pend turn up ∧ Step W w' sb mb fs (insF (blank n W.heap.size) fs) := by
  have hb := alloc_below W (.cells #[.slice none 0 0, .slice none 0 0] 80 (0, 0))
  have h1 := h.fresh hb
  have ho : Only (· = mb) (W.alloc (.cells #[.slice none 0 0, .slice none 0 0] 80 (0, 0))) w' := Only.of_grown hg (fun k e => by simpa using e.symm)
  have hmlt := h.map.lt
  have hnew : w'.heap[W.heap.size]? = some (.cells #[.slice none 0 0, .slice none 0 0] 80 (0, 0)) := ho.obj (heap_alloc_new _ _) (fun e => by omega)
  have hold : ∀ f ∈ fs, FRep w' f := fun f hf => (h1.files f hf).only ho (fun i hi e => by subst e; exact h1.mb_not hf hi) (fun i hi e => by subst e; exact h1.cov_own ⟨f, hf, hi⟩ (.inr (.inl rfl)))
  have hblank : FRep w' (blank n W.heap.size) := ⟨hnew, World.ownsRow_nil _ _ _ _, World.ownsRow_nil _ _ _ _, by simp [blank], by intro x hx; simp [blank] at hx⟩
  have hlt : ∀ f ∈ fs, f.fb < W.heap.size := fun f hf => (Array.getElem?_eq_some_iff.1 (h.files f hf).box).1
  refine ⟨⟨ho.obj h1.box h1.sb_mb, ?_, ?_, ?_, ?_, ?_⟩, ⟨?_, ?_, ?_⟩⟩
  · have e := put_ent (fs := fs) (x := blank n W.heap.size) hn
    have e' : (DataW.map (fs.map ent)).put (.string n) (.lit (.int .i64 (W.heap.size : Nat))) = .map ((insF (blank n W.heap.size) fs).map ent) := e
    rw [e'] at hm
    rw [length_insF]
    exact hm
  · intro f hf
    rcases mem_insF.1 hf with rfl | hf
    · exact hblank
    · exact hold f hf
  · exact sorted_insF hn h.sorted
  · refine pair_insF (fun y z hyz => ⟨fun e => hyz.1 e.symm, hyz.2.1.symm, hyz.2.2.symm⟩) (fun y hy => ⟨?_, ?_, ?_⟩) h.apart
    · have := hlt y hy; simp [blank]; omega
    · intro b hb'; simp [blank, Value.ownBlock] at hb'
    · intro b hb'; simp [blank, Value.ownBlock] at hb'
  · intro f hf g hg' x hx b hb'
    rcases mem_insF.1 hg' with rfl | hg'
    · simp [blank] at hx
    · rcases mem_insF.1 hf with rfl | hf
      · simp [blank, Value.ownBlock] at hb'
      · exact h.sep f hf g hg' x hx b hb'
  · exact (Only.fresh hb _).step ho (fun i e => .inl (.inr (.inl e)))
  · intro i hi
    rcases hi with rfl | rfl | ⟨f, hf, hi⟩
    · exact .inl (.inl rfl)
    · exact .inl (.inr (.inl rfl))
    · rcases mem_insF.1 hf with rfl | hf
      · rcases hi with rfl | hi | hi
        · exact .inr (Nat.le_refl _)
        · simp [blank, Value.ownBlock] at hi
        · simp [blank, Value.ownBlock] at hi
      · exact .inl (.inr (.inr ⟨f, hf, hi⟩))
  · intro i hi
    obtain ⟨f, hf, x, hx, hxi⟩ := hi
    rcases mem_insF.1 hf with rfl | hf
    · simp [blank] at hx
    · exact .inl ⟨f, hf, x, hx, hxi⟩

set_option maxRecDepth 100000 in
set_option maxHeartbeats 2000000 in
theorem create_ok {W : World} {sb mb pend turn : Nat} {left : Int} {fs : List MF} (h : SRep W sb mb fs left pend turn true) {s : ByteArray} (hlen : s.size ≤ maxLen) (hs : s.data.toList ≠ []) (hf : fileOf fs s.data.toList = none) (hn : fs.length < 4096) :
    Calls Tryz.prog 12 #[.pointer (some ⟨sb, 0, none⟩), .string s] W fun e w' => e = .returned (.int .i64 0) ∧ SRep w' sb mb (insF (blank s.data.toList W.heap.size) fs) left pend turn true ∧ Step W w' sb mb fs (insF (blank s.data.toList W.heap.size) fs) := by
  obtain ⟨c0, c1, c2, c3, c4⟩ := box_cells h.box
  have HR := hide (ready_up c0 c4)
  have hl := (map_look h.map hlen).1
  unfold ptrOf at hl
  rw [hf] at hl
  simp only [Option.map_none, Option.isSome_none] at hl
  have hlen' := h.map.len (t := 61) Tryz.undMap 3
  have hsz : Maps.size (DataW.map (fs.map ent)) = fs.length := by simp [Maps.size]
  rw [hsz] at hlen'
  have hb := alloc_below W (.cells #[.slice none 0 0, .slice none 0 0] 80 (0, 0))
  obtain ⟨w', hst, hm, hg⟩ := (h.fresh hb).map.update strKey Tryz.undMap (by unfold maxLen; omega) (keyStr hlen) (ptrElem_mk W.heap.size)
  have HC := hide (h.created (fileOf_none hf) hm hg)
  have hne : (s.toList == []) = false := by
    have : s.toList ≠ [] := by rw [ByteArray.toList_eq]; exact hs
    simpa using this
  have hk0 := cell_later hb c0
  clear c1 c2 c3 c4 hm hg hb h hf hs
  go_enter Tryz.func12, Tryz.ntmps12
  go_wp2_with fail
  refine HR.out.mono ?_
  rintro _ _ ⟨rfl, rfl⟩
  go_wp2
  go_ret
  exact ⟨rfl, HC.out⟩
end Go.Proofs.YtikpckmlnhcddaaGreat
