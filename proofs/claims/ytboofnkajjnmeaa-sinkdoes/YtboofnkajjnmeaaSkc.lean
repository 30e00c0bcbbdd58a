/-
  Which numbers, names, vectors and transactions may be, Above: the program's and the reference's. The conditions: that the lists lie there.
-/
import Derived.Test.YtboofnkajjnmeaaSkb
namespace Go.Proofs.Ytboofnkajjnmeaa
open Go.RowKit

theorem vec_split {parts : Int} {v : List Int} {n : Nat} (hn : v.length = n) : vecI parts v ↔ (n : Int) = parts ∧ ∀ x ∈ v, numI x := by unfold vecI; rw [hn]
theorem take_all {p : Int → Prop} {l : List Int} {k : Nat} {x : Int} (h : ∀ y ∈ l.take k, p y) (hk : k < l.length) (hx : l[k]! = x) (px : p x) : ∀ y ∈ l.take (k + 1), p y := by
  rw [getElem!_pos l k hk] at hx
  rw [List.take_succ_eq_append_getElem hk, hx]
  intro y hy
  rcases List.mem_append.1 hy with hy | hy
  · exact h y hy
  · simp only [List.mem_singleton] at hy; rw [hy]; exact px
theorem mem_at {l : List Int} {k : Nat} {x : Int} (hk : k < l.length) (hx : l[k]! = x) : x ∈ l := by
  rw [getElem!_pos l k hk] at hx
  rw [← hx]
  exact List.getElem_mem hk
theorem above_iff : ∀ (a b : List Int), aboveC a b = true ↔ a.length = b.length ∧ ∀ i, i < a.length → b[i]! ≤ a[i]!
  | [], [] => by simp [aboveC]
  | [], _ :: _ => by simp [aboveC]
  | _ :: _, [] => by simp [aboveC]
  | x :: a, y :: b => by
    unfold aboveC
    rw [Bool.and_eq_true, decide_eq_true_eq, above_iff a b]
    constructor
    · rintro ⟨h1, h2, h3⟩
      refine ⟨by simp [h2], fun i hi => ?_⟩
      cases i with
      | zero => simpa using h1
      | succ i => simpa using h3 i (by simpa using hi)
    · rintro ⟨h1, h2⟩
      refine ⟨by simpa using h2 0 (by simp), by simpa using h1, fun i hi => ?_⟩
      simpa using h2 (i + 1) (by simpa using hi)
set_option maxRecDepth 100000 in
set_option maxHeartbeats 2000000 in
theorem isId_any {W : World} {n : Int} {rb : Bool} (hrb : decide (posI n) = rb) :
    Calls Try.prog 47 #[.int .i64 n] W fun e w' => e = .returned (.bool rb) ∧ w' = W := by
  by_cases h1 : 1 ≤ n
  · by_cases h2 : n ≤ 9007199254740992
    ·
      have HR : Hid (rb = true) := hide (by rw [← hrb]; simp only [posI]; first | exact decide_eq_true ⟨by omega, by omega⟩ | exact decide_eq_false (by omega))
      have e1 : decide (n ≥ 1) = true := decide_eq_true h1
      have e2 : decide (n ≤ 9007199254740992) = true := decide_eq_true h2
      clear hrb h1 h2
      go_enter Try.func47, Try.ntmps47
      go_wp2
      go_ret
      exact ⟨by rw [HR.out]; rfl, rfl⟩
    ·
      have HR : Hid (rb = false) := hide (by rw [← hrb]; simp only [posI]; first | exact decide_eq_true ⟨by omega, by omega⟩ | exact decide_eq_false (by omega))
      have e1 : decide (n ≥ 1) = true := decide_eq_true h1
      have e2 : decide (n ≤ 9007199254740992) = false := decide_eq_false h2
      clear hrb h1 h2
      go_enter Try.func47, Try.ntmps47
      go_wp2
      go_ret
      exact ⟨by rw [HR.out]; rfl, rfl⟩
  ·
    have HR : Hid (rb = false) := hide (by rw [← hrb]; simp only [posI]; first | exact decide_eq_true ⟨by omega, by omega⟩ | exact decide_eq_false (by omega))
    have e1 : decide (n ≥ 1) = false := decide_eq_false h1
    clear hrb h1
    go_enter Try.func47, Try.ntmps47
    go_wp2
    go_ret
    exact ⟨by rw [HR.out]; rfl, rfl⟩
set_option maxRecDepth 100000 in
set_option maxHeartbeats 2000000 in
theorem pos_any {W : World} {n : Int} {rb : Bool} (hrb : decide (posI n) = rb) :
    Calls Try.prog 56 #[.int .i64 n] W fun e w' => e = .returned (.bool rb) ∧ w' = W := by
  by_cases h1 : 1 ≤ n
  · by_cases h2 : n ≤ 9007199254740992
    ·
      have HR : Hid (rb = true) := hide (by rw [← hrb]; simp only [posI]; first | exact decide_eq_true ⟨by omega, by omega⟩ | exact decide_eq_false (by omega))
      have e1 : decide (n ≥ 1) = true := decide_eq_true h1
      have e2 : decide (n ≤ 9007199254740992) = true := decide_eq_true h2
      clear hrb h1 h2
      go_enter Try.func56, Try.ntmps56
      go_wp2
      go_ret
      exact ⟨by rw [HR.out]; rfl, rfl⟩
    ·
      have HR : Hid (rb = false) := hide (by rw [← hrb]; simp only [posI]; first | exact decide_eq_true ⟨by omega, by omega⟩ | exact decide_eq_false (by omega))
      have e1 : decide (n ≥ 1) = true := decide_eq_true h1
      have e2 : decide (n ≤ 9007199254740992) = false := decide_eq_false h2
      clear hrb h1 h2
      go_enter Try.func56, Try.ntmps56
      go_wp2
      go_ret
      exact ⟨by rw [HR.out]; rfl, rfl⟩
  ·
    have HR : Hid (rb = false) := hide (by rw [← hrb]; simp only [posI]; first | exact decide_eq_true ⟨by omega, by omega⟩ | exact decide_eq_false (by omega))
    have e1 : decide (n ≥ 1) = false := decide_eq_false h1
    clear hrb h1
    go_enter Try.func56, Try.ntmps56
    go_wp2
    go_ret
    exact ⟨by rw [HR.out]; rfl, rfl⟩
set_option maxRecDepth 100000 in
set_option maxHeartbeats 2000000 in
theorem num_any {W : World} {n : Int} {rb : Bool} (hrb : decide (numI n) = rb) :
    Calls Try.prog 81 #[.int .i64 n] W fun e w' => e = .returned (.bool rb) ∧ w' = W := by
  by_cases h1 : 0 ≤ n
  · by_cases h2 : n ≤ 9007199254740992
    ·
      have HR : Hid (rb = true) := hide (by rw [← hrb]; simp only [numI]; first | exact decide_eq_true ⟨by omega, by omega⟩ | exact decide_eq_false (by omega))
      have e1 : decide (n ≥ 0) = true := decide_eq_true h1
      have e2 : decide (n ≤ 9007199254740992) = true := decide_eq_true h2
      clear hrb h1 h2
      go_enter Try.func81, Try.ntmps81
      go_wp2
      go_ret
      exact ⟨by rw [HR.out]; rfl, rfl⟩
    ·
      have HR : Hid (rb = false) := hide (by rw [← hrb]; simp only [numI]; first | exact decide_eq_true ⟨by omega, by omega⟩ | exact decide_eq_false (by omega))
      have e1 : decide (n ≥ 0) = true := decide_eq_true h1
      have e2 : decide (n ≤ 9007199254740992) = false := decide_eq_false h2
      clear hrb h1 h2
      go_enter Try.func81, Try.ntmps81
      go_wp2
      go_ret
      exact ⟨by rw [HR.out]; rfl, rfl⟩
  ·
    have HR : Hid (rb = false) := hide (by rw [← hrb]; simp only [numI]; first | exact decide_eq_true ⟨by omega, by omega⟩ | exact decide_eq_false (by omega))
    have e1 : decide (n ≥ 0) = false := decide_eq_false h1
    clear hrb h1
    go_enter Try.func81, Try.ntmps81
    go_wp2
    go_ret
    exact ⟨by rw [HR.out]; rfl, rfl⟩
theorem two_own {w : World} {b : Nat} {t : TypeId} {d0 d1 : Value} (h : w.heap[b]? = some (.cells #[d0, d1] t (0, 0))) (e0 e1 : Value) : ((w.setCell ⟨b, 0, none⟩ e0).setCell ⟨b, 1, none⟩ e1).heap[b]? = some (.cells #[e0, e1] t (0, 0)) := heap_set_sameL (heap_set_sameL h 0 e0) 1 e1
theorem only_two (w : World) (b : Nat) (e0 e1 : Value) : Only (· = b) w ((w.setCell ⟨b, 0, none⟩ e0).setCell ⟨b, 1, none⟩ e1) := (Only.set (F := (· = b)) w b 0 e0 rfl).trans (Only.set (F := (· = b)) _ b 1 e1 rfl)
theorem results_cell_one {P : Program} {fn : Func} {p : Tmp} {ty : TypeId} (h : fn.results = #[.cell p ty]) (tmps : Array Value) (w : World) (g : Nat) (t : TypeId) (cs : Array Value) (fr : Nat × Nat) (d : TypeDesc)
    (hp : tmps.getD p undef = .pointer (some ⟨g, 0, none⟩)) (hg : w.heap[g]? = some (.cells cs t fr))
    (hu : P.underlying ty = some d) (hd : (match d with | .struct _ | .array _ _ => true | _ => false) = true) (hi : (P.info? ty).map (·.size) = some cs.size) :
    (results fn tmps).run P w = .ok (.agg cs) w := by
  have hp' : tmps[p]?.getD undef = .pointer (some ⟨g, 0, none⟩) := by simpa using hp
  have hl := run_loadVar_row (P := P) w g t ty cs fr d hg hu hd hi
  simp only [results, h]
  simp [hp', asAddr, hl]
set_option maxRecDepth 100000 in
set_option maxHeartbeats 2000000 in
theorem name_any {W : World} {ep id bg : Int} {rp vp : Option Addr} {rn rc vn vc : Nat} :
    Calls Try.prog 50 #[.agg #[.int .i64 ep, .int .i64 id, .int .i64 bg, .slice rp rn rc, .slice vp vn vc]] W fun e w' => e = .returned (.agg #[.int .i64 ep, .int .i64 id]) ∧ Below W.heap.size W w' := by
  obtain ⟨V, hV⟩ : ∃ V, V = W.alloc (.cells #[.int .i64 ep, .int .i64 id, .int .i64 bg, .slice rp rn rc, .slice vp vn vc] 34 (0, 0)) := ⟨_, rfl⟩
  have HV : Hid (V.heap[W.heap.size]? = some (.cells #[.int .i64 ep, .int .i64 id, .int .i64 bg, .slice rp rn rc, .slice vp vn vc] 34 (0, 0))) := hide (by rw [hV]; exact heap_alloc_new W _)
  have HBV : Hid (Below W.heap.size W V) := hide (by rw [hV]; exact alloc_below _ _)
  obtain ⟨bB, hbB⟩ : ∃ bB, W.heap.size = bB := ⟨_, rfl⟩
  rw [hbB] at HV HBV
  have HZbB := hide hbB
  obtain ⟨X, hX⟩ : ∃ X, X = V.alloc (.cells #[.int .i64 0, .int .i64 0] 55 (0, 0)) := ⟨_, rfl⟩
  have HX : Hid (X.heap[V.heap.size]? = some (.cells #[.int .i64 0, .int .i64 0] 55 (0, 0))) := hide (by rw [hX]; exact heap_alloc_new V _)
  have HBX : Hid (Below V.heap.size V X) := hide (by rw [hX]; exact alloc_below _ _)
  obtain ⟨rB, hrB⟩ : ∃ rB, V.heap.size = rB := ⟨_, rfl⟩
  rw [hrB] at HX HBX
  have HZrB := hide hrB
  have HV2 := hide (below_box (show Below V.heap.size V X by rw [hX]; exact alloc_below _ _) HV.out)
  have HLT := hide (box_lt HV.out)
  rw [hrB] at HLT
  have hs0 : V.heap.size = bB + 1 := by rw [hV, ← hbB]; simp
  have hrb : bB + 1 = rB := by omega
  clear HV
  go_enter Try.func50, Try.ntmps50
  go_upto_region 1 with fail
  try rw [hbB]
  try rw [hrb]
  rw [← hV, ← hX]
  try rw [hrB]
  clear hV hX hbB hrB hs0 hrb
  have u0 := cellB HV2.out (i := 0) rfl
  have u1 := cellB HV2.out (i := 1) rfl
  have r0 := cellB HX.out (i := 0) rfl
  have r1 := cellB HX.out (i := 1) rfl
  have f0 := frB HX.out (i := 0)
  have f1 := frB HX.out (i := 1)
  go_wp2
  have hE := two_own HX.out (.int .i64 ep) (.int .i64 id)
  refine bodyPost_ret (results_cell_one rfl _ _ rB 55 _ _ _ rfl hE Try.underlying55 rfl (by kernel_rfl)) rfl ?_
  refine ⟨rfl, ?_⟩
  rw [HZbB.out]
  exact (below_next HBV.out (by have := HBX.out; rw [← HZrB.out] at this; exact this) (by have := HLT.out; have := HZrB.out; omega)).trans ((only_two X rB _ _).below (by have := HLT.out; have := box_lt HX.out; omega) (fun i e => by have e' : i = rB := e; have := HLT.out; omega))
set_option maxRecDepth 100000 in
set_option maxHeartbeats 2000000 in
theorem isName_any {W : World} {ep id : Int} {rb : Bool} (hrb : decide (posI ep ∧ posI id) = rb) :
    Calls Try.prog 73 #[.agg #[.int .i64 ep, .int .i64 id]] W fun e w' => e = .returned (.bool rb) ∧ Below W.heap.size W w' := by
  by_cases h1 : posI ep
  · by_cases h2 : posI id
    ·
      have HR : Hid (rb = true) := hide (by rw [← hrb]; exact decide_eq_true ⟨h1, h2⟩)
      have h1 := hide h1
      have h2 := hide h2
      clear hrb
      obtain ⟨V, hV⟩ : ∃ V, V = W.alloc (.cells #[.int .i64 ep, .int .i64 id] 55 (0, 0)) := ⟨_, rfl⟩
      have HV : Hid (V.heap[W.heap.size]? = some (.cells #[.int .i64 ep, .int .i64 id] 55 (0, 0))) := hide (by rw [hV]; exact heap_alloc_new W _)
      have HBV : Hid (Below W.heap.size W V) := hide (by rw [hV]; exact alloc_below _ _)
      obtain ⟨bB, hbB⟩ : ∃ bB, W.heap.size = bB := ⟨_, rfl⟩
      rw [hbB] at HV HBV
      have HZbB := hide hbB
      go_enter Try.func73, Try.ntmps73
      go_upto_region 1 with fail
      rw [← hV]
      try rw [hbB]
      clear hV hbB
      have u0 := cellB HV.out (i := 0) rfl
      have u1 := cellB HV.out (i := 1) rfl
      go_wp2_with fail
      refine (isId_any (decide_eq_true h1.out)).mono ?_
      rintro _ _ ⟨rfl, rfl⟩
      go_wp2_with fail
      refine (isId_any (decide_eq_true h2.out)).mono ?_
      rintro _ _ ⟨rfl, rfl⟩
      go_wp2
      go_ret
      exact ⟨by rw [HR.out]; rfl, by rw [HZbB.out]; exact HBV.out⟩
    ·
      have HR : Hid (rb = false) := hide (by rw [← hrb]; exact decide_eq_false (fun h => h2 h.2))
      have h1 := hide h1
      have h2 := hide h2
      clear hrb
      obtain ⟨V, hV⟩ : ∃ V, V = W.alloc (.cells #[.int .i64 ep, .int .i64 id] 55 (0, 0)) := ⟨_, rfl⟩
      have HV : Hid (V.heap[W.heap.size]? = some (.cells #[.int .i64 ep, .int .i64 id] 55 (0, 0))) := hide (by rw [hV]; exact heap_alloc_new W _)
      have HBV : Hid (Below W.heap.size W V) := hide (by rw [hV]; exact alloc_below _ _)
      obtain ⟨bB, hbB⟩ : ∃ bB, W.heap.size = bB := ⟨_, rfl⟩
      rw [hbB] at HV HBV
      have HZbB := hide hbB
      go_enter Try.func73, Try.ntmps73
      go_upto_region 1 with fail
      rw [← hV]
      try rw [hbB]
      clear hV hbB
      have u0 := cellB HV.out (i := 0) rfl
      have u1 := cellB HV.out (i := 1) rfl
      go_wp2_with fail
      refine (isId_any (decide_eq_true h1.out)).mono ?_
      rintro _ _ ⟨rfl, rfl⟩
      go_wp2_with fail
      refine (isId_any (decide_eq_false h2.out)).mono ?_
      rintro _ _ ⟨rfl, rfl⟩
      go_wp2
      go_ret
      exact ⟨by rw [HR.out]; rfl, by rw [HZbB.out]; exact HBV.out⟩
  ·
    have HR : Hid (rb = false) := hide (by rw [← hrb]; exact decide_eq_false (fun h => h1 h.1))
    have h1 := hide h1
    clear hrb
    obtain ⟨V, hV⟩ : ∃ V, V = W.alloc (.cells #[.int .i64 ep, .int .i64 id] 55 (0, 0)) := ⟨_, rfl⟩
    have HV : Hid (V.heap[W.heap.size]? = some (.cells #[.int .i64 ep, .int .i64 id] 55 (0, 0))) := hide (by rw [hV]; exact heap_alloc_new W _)
    have HBV : Hid (Below W.heap.size W V) := hide (by rw [hV]; exact alloc_below _ _)
    obtain ⟨bB, hbB⟩ : ∃ bB, W.heap.size = bB := ⟨_, rfl⟩
    rw [hbB] at HV HBV
    have HZbB := hide hbB
    go_enter Try.func73, Try.ntmps73
    go_upto_region 1 with fail
    rw [← hV]
    try rw [hbB]
    clear hV hbB
    have u0 := cellB HV.out (i := 0) rfl
    have u1 := cellB HV.out (i := 1) rfl
    go_wp2_with fail
    refine (isId_any (decide_eq_false h1.out)).mono ?_
    rintro _ _ ⟨rfl, rfl⟩
    go_wp2
    go_ret
    exact ⟨by rw [HR.out]; rfl, by rw [HZbB.out]; exact HBV.out⟩
set_option maxRecDepth 100000 in
set_option maxHeartbeats 2000000 in
theorem isVector_any {W : World} {p : Option Addr} {n c : Nat} {l : List Int} {parts : Int} (h : NRow W p c l) (hn : l.length = n) {rb : Bool} (hrb : decide (vecI parts l) = rb) :
    Calls Try.prog 74 #[.slice p n c, .int .i64 parts] W fun e w' => e = .returned (.bool rb) ∧ Below W.heap.size W w' := by
  have i1 := h.le
  have i2 := h.top
  rw [hn] at i1
  by_cases hp : (n : Int) = parts
  · have H := hide h
    have HN := hide hn
    have HP := hide hp
    have HRB := hide hrb
    have e0 : ((n : Int) != parts) = false := by simpa using hp
    clear h hn hp hrb
    go_enter Try.func74, Try.ntmps74
    go_wp2_with fail
    go_loopw [13] (fun i wr => ∃ k : Nat, k ≤ n ∧ i = .int .i64 (k : Int) ∧ Hid (∀ y ∈ l.take k, numI y) ∧ Hid (Below W.heap.size W wr)) (fun i _ => n - (intOf i).toNat)
    case atStart => exact ⟨0, Nat.zero_le _, rfl, hide (by simp), hide (Below.refl _ _)⟩
    case round =>
      obtain ⟨k, hk, rfl, HT, HB⟩ := hrel
      rename World => wr
      by_cases hlt : k < n
      · have hlt2 : k < l.length := by rw [HN.out]; exact hlt
        obtain ⟨x, hx⟩ : ∃ x, l[k]! = x := ⟨_, rfl⟩
        obtain ⟨g1, o1, rfl, a0⟩ := NRow.at (NRow.later H.out HB.out) hlt2 hx
        by_cases hc : numI x
        · have HT2 := hide (take_all HT.out hlt2 hx hc)
          have e1 : decide (x < 0) = false := decide_eq_false (by unfold numI at hc; omega)
          have e2 : decide (x > 9007199254740992) = false := decide_eq_false (by unfold numI at hc; omega)
          clear hx hlt2 hc
          go_wp2
          exact ⟨⟨k + 1, by omega, by first | rfl | go_num, HT2, HB⟩, by simp [intOf]; omega⟩
        · have HF : Hid (rb = false) := hide (by
            rw [← HRB.out]
            exact decide_eq_false (fun h9 => hc (((vec_split HN.out).1 h9).2 x (mem_at hlt2 hx))))
          by_cases h0 : x < 0
          · have e1 : decide (x < 0) = true := decide_eq_true h0
            clear hx hlt2 hc h0
            go_wp2
            go_ret
            exact ⟨by rw [HF.out]; rfl, HB.out⟩
          · have e1 : decide (x < 0) = false := decide_eq_false h0
            have e2 : decide (x > 9007199254740992) = true := decide_eq_true (by unfold numI at hc; omega)
            clear hx hlt2 hc h0
            go_wp2
            go_ret
            exact ⟨by rw [HF.out]; rfl, HB.out⟩
      · obtain rfl : k = n := by omega
        have HF : Hid (rb = true) := hide (by
          rw [← HRB.out]
          refine decide_eq_true ((vec_split HN.out).2 ⟨HP.out, ?_⟩)
          have h9 := HT.out
          rw [List.take_of_length_le (by rw [HN.out]; exact Nat.le_refl _)] at h9
          exact h9)
        go_wp2
        go_ret
        exact ⟨by rw [HF.out]; rfl, HB.out⟩
  · have e0 : ((n : Int) != parts) = true := by simpa using hp
    have HF : Hid (rb = false) := hide (by
      rw [← hrb]
      exact decide_eq_false (fun h9 => hp ((vec_split hn).1 h9).1))
    clear h hn hp hrb
    go_enter Try.func74, Try.ntmps74
    go_wp2
    go_ret
    exact ⟨by rw [HF.out]; rfl, Below.refl _ _⟩
set_option maxRecDepth 100000 in
set_option maxHeartbeats 2000000 in
theorem vector_any {W : World} {p : Option Addr} {n c b : Nat} {l : List Int} {parts : Int} (hB : W.cell? ⟨b, 0, none⟩ = some (.int .i64 parts)) (h : NRow W p c l) (hn : l.length = n) {rb : Bool} (hrb : decide (vecI parts l) = rb) :
    Calls Try.prog 57 #[.pointer (some ⟨b, 0, none⟩), .slice p n c] W fun e w' => e = .returned (.bool rb) ∧ Below W.heap.size W w' := by
  have i1 := h.le
  have i2 := h.top
  rw [hn] at i1
  by_cases hp : (n : Int) = parts
  · have H := hide h
    have HN := hide hn
    have HP := hide hp
    have HRB := hide hrb
    have e0 : ((n : Int) != parts) = false := by simpa using hp
    clear h hn hp hrb
    go_enter Try.func57, Try.ntmps57
    go_wp2_with fail
    go_loopw [5] (fun i wr => ∃ k : Nat, k ≤ n ∧ i = .int .i64 (k : Int) ∧ Hid (∀ y ∈ l.take k, numI y) ∧ Hid (Below W.heap.size W wr)) (fun i _ => n - (intOf i).toNat)
    case atStart => exact ⟨0, Nat.zero_le _, rfl, hide (by simp), hide (Below.refl _ _)⟩
    case round =>
      obtain ⟨k, hk, rfl, HT, HB⟩ := hrel
      rename World => wr
      by_cases hlt : k < n
      · have hlt2 : k < l.length := by rw [HN.out]; exact hlt
        obtain ⟨x, hx⟩ : ∃ x, l[k]! = x := ⟨_, rfl⟩
        obtain ⟨g1, o1, rfl, a0⟩ := NRow.at (NRow.later H.out HB.out) hlt2 hx
        by_cases hc : numI x
        · have HT2 := hide (take_all HT.out hlt2 hx hc)
          have HC := hide hc
          clear hx hlt2 hc
          go_wp2_with fail
          refine (num_any (decide_eq_true HC.out)).mono ?_
          rintro _ _ ⟨rfl, rfl⟩
          go_wp2
          exact ⟨⟨k + 1, by omega, by first | rfl | go_num, HT2, HB⟩, by simp [intOf]; omega⟩
        · have HF : Hid (rb = false) := hide (by
            rw [← HRB.out]
            exact decide_eq_false (fun h9 => hc (((vec_split HN.out).1 h9).2 x (mem_at hlt2 hx))))
          have HC := hide hc
          clear hx hlt2 hc
          go_wp2_with fail
          refine (num_any (decide_eq_false HC.out)).mono ?_
          rintro _ _ ⟨rfl, rfl⟩
          go_wp2
          go_ret
          exact ⟨by rw [HF.out]; rfl, HB.out⟩
      · obtain rfl : k = n := by omega
        have HF : Hid (rb = true) := hide (by
          rw [← HRB.out]
          refine decide_eq_true ((vec_split HN.out).2 ⟨HP.out, ?_⟩)
          have h9 := HT.out
          rw [List.take_of_length_le (by rw [HN.out]; exact Nat.le_refl _)] at h9
          exact h9)
        go_wp2
        go_ret
        exact ⟨by rw [HF.out]; rfl, HB.out⟩
  · have e0 : ((n : Int) != parts) = true := by simpa using hp
    have HF : Hid (rb = false) := hide (by
      rw [← hrb]
      exact decide_eq_false (fun h9 => hp ((vec_split hn).1 h9).1))
    clear h hn hp hrb
    go_enter Try.func57, Try.ntmps57
    go_wp2
    go_ret
    exact ⟨by rw [HF.out]; rfl, Below.refl _ _⟩
set_option maxRecDepth 100000 in
set_option maxHeartbeats 2000000 in
theorem above_any {W : World} {p1 p2 : Option Addr} {n1 n2 c1 c2 : Nat} {a b : List Int} (h1 : NRow W p1 c1 a) (h2 : NRow W p2 c2 b) (hn1 : a.length = n1) (hn2 : b.length = n2) {rb : Bool} (hrb : aboveC a b = rb) :
    Calls Try.prog 75 #[.slice p1 n1 c1, .slice p2 n2 c2] W fun e w' => e = .returned (.bool rb) ∧ Below W.heap.size W w' := by
  have i1 := h1.le
  have i2 := h1.top
  have i3 := h2.le
  have i4 := h2.top
  rw [hn1] at i1
  rw [hn2] at i3
  by_cases hp : n1 = n2
  · subst hp
    have H1 := hide h1
    have H2 := hide h2
    have HN1 := hide hn1
    have HN2 := hide hn2
    have HRB := hide hrb
    clear h1 h2 hn1 hn2 hrb
    go_enter Try.func75, Try.ntmps75
    go_wp2_with fail
    go_loopw [13] (fun i wr => ∃ k : Nat, k ≤ n1 ∧ i = .int .i64 (k : Int) ∧ Hid (∀ j, j < k → b[j]! ≤ a[j]!) ∧ Hid (Below W.heap.size W wr)) (fun i _ => n1 - (intOf i).toNat)
    case atStart => exact ⟨0, Nat.zero_le _, rfl, hide (fun j hj => absurd hj (by omega)), hide (Below.refl _ _)⟩
    case round =>
      obtain ⟨k, hk, rfl, HT, HB⟩ := hrel
      rename World => wr
      by_cases hlt : k < n1
      · have hlt2 : k < a.length := by rw [HN1.out]; exact hlt
        have hlt3 : k < b.length := by rw [HN2.out]; exact hlt
        obtain ⟨x, hx⟩ : ∃ x, a[k]! = x := ⟨_, rfl⟩
        obtain ⟨y, hy⟩ : ∃ y, b[k]! = y := ⟨_, rfl⟩
        obtain ⟨g1, o1, rfl, a0⟩ := NRow.at (NRow.later H1.out HB.out) hlt2 hx
        obtain ⟨g2, o2, rfl, b0⟩ := NRow.at (NRow.later H2.out HB.out) hlt3 hy
        by_cases hc : x < y
        · have HF : Hid (rb = false) := hide (by
            rw [← HRB.out]
            apply Bool.eq_false_iff.2
            intro h9
            have := ((above_iff a b).1 h9).2 k hlt2
            rw [hx, hy] at this
            omega)
          have e1 : decide (x < y) = true := decide_eq_true hc
          clear hx hy hlt2 hlt3 hc
          go_upto_region 6 with fail
          go_big_quiet (fail)
          go_wp2
          go_ret
          exact ⟨by rw [HF.out]; rfl, below_drewN HB.out _⟩
        · have HT2 : Hid (∀ j, j < k + 1 → b[j]! ≤ a[j]!) := hide (fun j hj => by
            by_cases hjk : j = k
            · subst hjk; rw [hx, hy]; omega
            · exact HT.out j (by omega))
          have e1 : decide (x < y) = false := decide_eq_false hc
          clear hx hy hlt2 hlt3 hc
          go_upto_region 6 with fail
          go_big_quiet (fail)
          go_wp2
          exact ⟨⟨k + 1, by omega, by first | rfl | go_num, HT2, hide (below_drewN HB.out _)⟩, by simp [intOf]; omega⟩
      · obtain rfl : k = n1 := by omega
        have HF : Hid (rb = true) := hide (by
          rw [← HRB.out]
          exact (above_iff a b).2 ⟨by rw [HN1.out, HN2.out], fun i hi => HT.out i (by rw [← HN1.out]; exact hi)⟩)
        go_wp2
        go_ret
        exact ⟨by rw [HF.out]; rfl, HB.out⟩
  · have e0 : ((n1 : Int) != (n2 : Int)) = true := ne_ne8 (fun h => hp (by omega))
    have HF : Hid (rb = false) := hide (by
      rw [← hrb]
      apply Bool.eq_false_iff.2
      intro h9
      have := ((above_iff a b).1 h9).1
      omega)
    clear h1 h2 hn1 hn2 hp hrb
    go_enter Try.func75, Try.ntmps75
    go_wp2
    go_ret
    exact ⟨by rw [HF.out]; rfl, Below.refl _ _⟩
set_option maxRecDepth 100000 in
set_option maxHeartbeats 2000000 in
theorem rabove_any {W : World} {p1 p2 : Option Addr} {n1 n2 c1 c2 : Nat} {a b : List Int} (h1 : NRow W p1 c1 a) (h2 : NRow W p2 c2 b) (hn1 : a.length = n1) (hn2 : b.length = n2) {rb : Bool} (hrb : aboveC a b = rb) :
    Calls Try.prog 19 #[.slice p1 n1 c1, .slice p2 n2 c2] W fun e w' => e = .returned (.bool rb) ∧ Below W.heap.size W w' := by
  have i1 := h1.le
  have i2 := h1.top
  have i3 := h2.le
  have i4 := h2.top
  rw [hn1] at i1
  rw [hn2] at i3
  by_cases hp : n1 = n2
  · subst hp
    have H1 := hide h1
    have H2 := hide h2
    have HN1 := hide hn1
    have HN2 := hide hn2
    have HRB := hide hrb
    clear h1 h2 hn1 hn2 hrb
    go_enter Try.func19, Try.ntmps19
    go_wp2_with fail
    go_loopw [5] (fun i wr => ∃ k : Nat, k ≤ n1 ∧ i = .int .i64 (k : Int) ∧ Hid (∀ j, j < k → b[j]! ≤ a[j]!) ∧ Hid (Below W.heap.size W wr)) (fun i _ => n1 - (intOf i).toNat)
    case atStart => exact ⟨0, Nat.zero_le _, rfl, hide (fun j hj => absurd hj (by omega)), hide (Below.refl _ _)⟩
    case round =>
      obtain ⟨k, hk, rfl, HT, HB⟩ := hrel
      rename World => wr
      by_cases hlt : k < n1
      · have hlt2 : k < a.length := by rw [HN1.out]; exact hlt
        have hlt3 : k < b.length := by rw [HN2.out]; exact hlt
        obtain ⟨x, hx⟩ : ∃ x, a[k]! = x := ⟨_, rfl⟩
        obtain ⟨y, hy⟩ : ∃ y, b[k]! = y := ⟨_, rfl⟩
        obtain ⟨g1, o1, rfl, a0⟩ := NRow.at (NRow.later H1.out HB.out) hlt2 hx
        obtain ⟨g2, o2, rfl, b0⟩ := NRow.at (NRow.later H2.out HB.out) hlt3 hy
        by_cases hc : x < y
        · have HF : Hid (rb = false) := hide (by
            rw [← HRB.out]
            apply Bool.eq_false_iff.2
            intro h9
            have := ((above_iff a b).1 h9).2 k hlt2
            rw [hx, hy] at this
            omega)
          have e1 : decide (x < y) = true := decide_eq_true hc
          clear hx hy hlt2 hlt3 hc
          go_upto_region 6 with fail
          go_big_quiet (fail)
          go_wp2
          go_ret
          exact ⟨by rw [HF.out]; rfl, below_drewN HB.out _⟩
        · have HT2 : Hid (∀ j, j < k + 1 → b[j]! ≤ a[j]!) := hide (fun j hj => by
            by_cases hjk : j = k
            · subst hjk; rw [hx, hy]; omega
            · exact HT.out j (by omega))
          have e1 : decide (x < y) = false := decide_eq_false hc
          clear hx hy hlt2 hlt3 hc
          go_upto_region 6 with fail
          go_big_quiet (fail)
          go_wp2
          exact ⟨⟨k + 1, by omega, by first | rfl | go_num, HT2, hide (below_drewN HB.out _)⟩, by simp [intOf]; omega⟩
      · obtain rfl : k = n1 := by omega
        have HF : Hid (rb = true) := hide (by
          rw [← HRB.out]
          exact (above_iff a b).2 ⟨by rw [HN1.out, HN2.out], fun i hi => HT.out i (by rw [← HN1.out]; exact hi)⟩)
        go_wp2
        go_ret
        exact ⟨by rw [HF.out]; rfl, HB.out⟩
  · have e0 : ((n1 : Int) != (n2 : Int)) = true := ne_ne8 (fun h => hp (by omega))
    have HF : Hid (rb = false) := hide (by
      rw [← hrb]
      apply Bool.eq_false_iff.2
      intro h9
      have := ((above_iff a b).1 h9).1
      omega)
    clear h1 h2 hn1 hn2 hp hrb
    go_enter Try.func19, Try.ntmps19
    go_wp2
    go_ret
    exact ⟨by rw [HF.out]; rfl, Below.refl _ _⟩
end Go.Proofs.Ytboofnkajjnmeaa
