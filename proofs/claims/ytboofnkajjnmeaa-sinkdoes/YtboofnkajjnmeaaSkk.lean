/-
  tell and All of the program's sink, and what they tell: places and records, in order. The conditions: that the sink lies there.
-/
import Derived.Test.YtboofnkajjnmeaaTk0
import Derived.Test.YtboofnkajjnmeaaSkj
import Derived.Test.YtboofnkajjnmeaaRgs
import Derived.Lib.Bytes
import Derived.Laws.EntriesVeiled
import Derived.Deep.RegionHeld3
namespace Go.Proofs.Ytboofnkajjnmeaa
open Go.RowKit Go.Shelf
attribute [local go_sem] Oper.semAt_some

theorem RRow.tail {W : World} {p : Option Addr} {c : Nat} {rs : List RC} (h : RRow W p c rs) {j : Nat} (hj : j ≤ rs.length) : RRow W (if c = j then p else Option.map (fun x => x.add (j * 2)) p) (c - j) (rs.drop j) := by
  have h1 := h.le
  have h2 := h.top
  refine ⟨by rw [List.length_drop]; omega, by omega, ?_, ?_⟩
  · intro e
    by_cases hc : c = j
    · omega
    · rw [if_neg hc] at e
      have := h.nil (by simpa using e)
      omega
  · intro i hi
    rw [List.length_drop] at hi
    obtain ⟨g, o, e, hcell⟩ := h.cell (j + i) (by omega)
    rw [if_neg (by omega), e]
    refine ⟨g, o + j * 2, by simp [Addr.add], fun k hk => ?_⟩
    have := hcell k hk
    rw [getElem!_pos rs (j + i) (by omega)] at this
    rw [getElem!_pos (rs.drop j) i (by rw [List.length_drop]; omega), List.getElem_drop, ← this]
    congr 2
    omega

def RC.agg (x : RC) : Value := .agg #[.int .i64 x.key, .int .i64 x.val]
def tellR (j : Nat) (es : List RC) : List (Array Value) := (List.range es.length).map fun (k : Nat) => #[.int .i64 ((j : Int) + (k : Int)), (es[k]!).agg]
theorem tellR_len (j : Nat) (es : List RC) : (tellR j es).length = es.length := by unfold tellR; simp
theorem tellR_get {j : Nat} {es : List RC} {k : Nat} (hk : k < es.length) {x : RC} (hx : es[k]! = x) : (tellR j es).getD k #[] = #[.int .i64 ((j : Int) + (k : Int)), .agg #[.int .i64 x.key, .int .i64 x.val]] := by
  unfold tellR
  rw [List.getD_eq_getElem?_getD, List.getElem?_map, List.getElem?_range hk]
  simp only [Option.map_some, Option.getD_some, hx, RC.agg]
theorem enTell : ∀ args w, (callFunc 82 args).run Try.prog w = .ok (.enter 82 args) w := enters_of Try.func82 (by kernel_rfl) rfl
structure KTell (kb fb j L cap : Nat) (p : Option Addr) (es : List RC) (W : World) : Prop where
  c : W.cell? ⟨kb, 0, none⟩ = some (.slice p L cap)
  f : W.cell? ⟨fb, 0, none⟩ = some (.int .i64 (j : Int))
  r : RRow W p cap es
theorem KTell.later {kb fb j L cap : Nat} {p : Option Addr} {es : List RC} {W W' : World} (h : KTell kb fb j L cap p es W) (hb : Below W.heap.size W W') : KTell kb fb j L cap p es W' := ⟨cell_later hb h.c, cell_later hb h.f, h.r.later hb⟩
theorem KTell.only {F : Nat → Prop} {kb fb j L cap : Nat} {p : Option Addr} {es : List RC} {W W' : World} (h : KTell kb fb j L cap p es W) (ho : Only F W W') (hk : ¬ F kb) (hf : ¬ F fb) (hF : ∀ a, p = some a → ¬ F a.block) : KTell kb fb j L cap p es W' := ⟨ho.cell h.c hk, ho.cell h.f hf, h.r.only ho hF⟩
set_option maxRecDepth 100000 in
set_option maxHeartbeats 4000000 in
theorem tell_tells (q : Nat) (hq : 1 ≤ q) {kb fb j L cap : Nat} {p : Option Addr} {es : List RC} (hL : es.length = L) (hj : j + L ≤ 1048576) :
    TellsS q 82 #[.pointer (some ⟨kb, 0, none⟩), .pointer (some ⟨fb, 0, none⟩)] (tellR j es) (KTell kb fb j L cap p es) := by
  intro l J Jx hr hrob hgr hrx hgx hY W h0
  have HR := hide hr
  have HGR := hide hgr
  have HY := hide hY
  have H0 := hide h0
  have HL := hide hL
  obtain ⟨hcell, _, hrow⟩ := hr _ 0 W h0
  have i3 := hrow.le
  have i4 := hrow.top
  rw [hL] at i3
  clear hr hY h0 hrob hgr hrx hgx hrow hL
  show CallsIn Fence.wide q Try.prog 82 #[.func (.yield l) #[] #[], .pointer (some ⟨kb, 0, none⟩), .pointer (some ⟨fb, 0, none⟩)] W _
  refine callsIn_of_wp Try.func82 rfl trivial ?_ rfl
  simp only [Try.ntmps82, List.size_toArray, List.length_cons, List.length_nil, Nat.reduceAdd, Nat.reduceSub, Array.replicate_succ, Array.replicate_zero, List.push_toArray, List.append_toArray, List.nil_append, List.cons_append]
  gi_wp2
  gi_loopw [8] (fun i wr => ∃ m : Nat, m ≤ L ∧ i = .int .i64 (m : Int) ∧ Hid (J (fun _ => False) m wr)) (fun i _ => L - (intOf i).toNat)
  case atStart => exact ⟨0, Nat.zero_le _, rfl, H0⟩
  case round =>
    obtain ⟨m, hm, rfl, HJ⟩ := hrel
    clear H0 hcell
    by_cases hlt : m < L
    · have hlt2 : m < es.length := by rw [HL.out]; exact hlt
      have hGr := (HR.out _ _ wr HJ.out).r
      have hff := (HR.out _ _ wr HJ.out).f
      obtain ⟨x, hx⟩ : ∃ x, es[m]! = x := ⟨_, rfl⟩
      obtain ⟨g, o, rfl, d0, d1⟩ := RRow.at hGr hlt2 hx
      have y2 := tellR_get (j := j) hlt2 hx
      obtain ⟨ky, vl⟩ := x
      simp only at d0 d1 y2
      have hJ2 := HGR.out (fun _ => False) (fun _ => False) _ _ _ HJ.out (alloc_below wr (.cells #[.int .i64 ky, .int .i64 vl] 49 (0, 0))) (fun _ e => e.elim)
      obtain ⟨fn', tmps, assign, body, hyy, hRd⟩ := HY.out _ _ _ hJ2 (by rw [tellR_len]; exact hlt2)
      rw [y2] at hyy
      have HRd := hide hRd
      clear hRd y2 hGr hx hlt2 hJ2
      have qw : IntKind.i64.wrap ((j : Int) + (m : Int)) = (j : Int) + m := by rw [IntKind.wrap_i64]; omega
      have hff2 := cell_later (alloc_below wr (.cells #[.int .i64 ky, .int .i64 vl] 49 (0, 0))) hff
      gi_wp2
      refine HRd.out.mono ?_
      rintro e W3 ⟨_, _, ⟨rfl, hJ3⟩ | ⟨rfl, hJ3⟩⟩
      · have J3 : Hid (J (fun _ => False) (m + 1) W3) := hide hJ3
        clear HRd hyy hJ3 d0 d1 hff hff2 qw
        gi_wp2
        go_roundw
        case rel => exact ⟨m + 1, by omega, by first | rfl | go_num, J3⟩
        case measure => simp [intOf]; omega
      · have J3 := hide hJ3
        clear HRd hyy hJ3 d0 d1 hff hff2 qw
        gi_wp2
        refine bodyPost_ret (results_none rfl _ _ _) rfl ?_
        exact ⟨⟨_, rfl⟩, .inr ⟨_, _, by rw [tellR_len, HL.out]; omega, J3.out⟩⟩
    · obtain rfl : m = L := by omega
      have HJE : Hid (J (fun _ => False) (tellR j es).length wr) := by
        have h := HJ.out
        rw [tellR_len, HL.out]
        exact hide h
      gi_wp2
      refine bodyPost_end (results_none rfl _ _ _) rfl ?_
      exact ⟨⟨_, rfl⟩, .inl ⟨_, HJE.out⟩⟩
def TellA (W : World) (j : Nat) (es : List RC) (D : Nat → Prop) (e : Ending) (w' : World) : Prop := ∃ kb fb p c, e = .returned (.func (.func 82) #[] #[.pointer (some ⟨kb, 0, none⟩), .pointer (some ⟨fb, 0, none⟩)]) ∧ KTell kb fb j es.length c p es w' ∧ W.heap.size ≤ kb ∧ W.heap.size ≤ fb ∧ (∀ a, p = some a → D a.block) ∧ Below W.heap.size W w'
set_option maxRecDepth 100000 in
set_option maxHeartbeats 4000000 in
theorem tell_any {W : World} {B : Nat} {k : PK} {j : Nat} (h : PS B W k) (hj : j ≤ k.out.length) :
    Calls Try.prog 61 #[.pointer (some ⟨k.b, 0, none⟩), .int .i64 (j : Int)] W (TellA W j (k.out.drop j) (InB k.op)) := by
  obtain ⟨V, hV⟩ : ∃ V, V = W.alloc (.cells #[.int .i64 (j : Int)] 2 (0, 0)) := ⟨_, rfl⟩
  obtain ⟨X, hX⟩ : ∃ X, X = V.alloc (.cells #[.slice none 0 0] 31 (0, 0)) := ⟨_, rfl⟩
  have b1 : Below W.heap.size W V := by rw [hV]; exact alloc_below _ _
  have b2 : Below V.heap.size V X := by rw [hX]; exact alloc_below _ _
  obtain ⟨fB, hfB⟩ : ∃ fB, W.heap.size = fB := ⟨_, rfl⟩
  obtain ⟨kB, hkB⟩ : ∃ kB, V.heap.size = kB := ⟨_, rfl⟩
  have hs : V.heap.size = fB + 1 := by rw [hV, ← hfB]; simp
  have hfk : fB + 1 = kB := by omega
  have hx1 : X.heap[fB]? = some (.cells #[.int .i64 (j : Int)] 2 (0, 0)) := by rw [← hfB]; exact below_box b2 (by rw [hV]; exact heap_alloc_new W _)
  have hx2 : X.heap[kB]? = some (.cells #[.slice none 0 0] 31 (0, 0)) := by rw [hX, ← hkB]; exact heap_alloc_new V _
  have HBX : Hid (Below W.heap.size W X) := hide (b1.trans (b2.mono b1.size))
  have HF := hide hx1
  have HK := hide hx2
  have HFB : Hid (W.heap.size ≤ fB ∧ W.heap.size ≤ kB ∧ fB ≠ kB) := hide ⟨by omega, by omega, by omega⟩
  clear b1 b2 hx1 hx2
  have HP := hide h
  have HJ := hide hj
  have HPX := hide (h.later HBX.out)
  have hkb : k.b ≠ kB := by have := box_lt h.box; have := HFB.out; omega
  have hfb : fB ≠ kB := HFB.out.2.2
  obtain ⟨n, hn⟩ : ∃ n, k.out.length = n := ⟨_, rfl⟩
  have HN := hide hn
  have hjn : j ≤ n := by omega
  clear h hj
  go_enter Try.func61, Try.ntmps61
  go_upto_region 2 with fail
  try rw [hfB]
  try rw [hfk]
  rw [← hV, ← hX]
  try rw [hkB]
  clear hV hX hfB hkB hs hfk
  go_wp2_with fail
  refine (made_yes HPX.out).mono ?_
  rintro _ _ ⟨rfl, rfl⟩
  rename World => X
  have u1 := HPX.out.c1
  have w0 := cellB HF.out (i := 0) rfl
  have k0 := cellB HK.out (i := 0) rfl
  have z0 := frB HK.out (i := 0)
  have hle := HPX.out.orow.le
  have htl := HPX.out.orow.tail (j := j) HJ.out
  rw [hn] at u1 hle
  have HT := hide htl
  obtain ⟨A, hA⟩ : ∃ A, (if k.oc = j then k.op else Option.map (fun x => x.add (j * 2)) k.op) = A := ⟨_, rfl⟩
  have HA := hide hA
  clear htl hn
  go_upto_region 3 with fail
  refine wp_region_held_drew (S := fun w' => w'.cell? ⟨k.b, 1, none⟩ = some (.slice k.op n k.oc) ∧ w'.cell? ⟨fB, 0, none⟩ = some (.int .i64 (j : Int))) (by kernel_rfl) ⟨u1, w0⟩ (fun hHeld => ?_)
  refine tb 0 ?_ rfl (by kernel_rfl) (fun _ _ _ h => h) (by assumption) ?_ ?_
  rotate_left
  · intro w hSw
    (try dsimp only at hSw)
    go_simp
    all_goals with_reducible rfl
  simp only [Act.put]
  refine tb 1 ?_ rfl (by kernel_rfl) (fun _ _ _ h => h) (by assumption) ?_ ?_
  rotate_left
  · intro w hSw
    (try dsimp only at hSw)
    go_simp
    all_goals with_reducible rfl
  simp only [Act.put]
  refine tb 2 ?_ rfl (by kernel_rfl) (fun _ _ _ h => h) (by assumption) ?_ ?_
  rotate_left
  · intro w hSw
    (try dsimp only at hSw)
    go_simp
    all_goals with_reducible rfl
  simp only [Act.put]
  refine tb 3 ?_ rfl (by kernel_rfl) (fun _ _ _ h => h) (by assumption) ?_ ?_
  rotate_left
  · intro w hSw
    (try dsimp only at hSw)
    go_simp
    all_goals with_reducible rfl
  simp only [Act.put]
  refine tb 4 ?_ rfl (by kernel_rfl) (fun _ _ _ h => h) (by assumption) ?_ ?_
  rotate_left
  · intro w hSw
    (try dsimp only at hSw)
    go_simp
    all_goals with_reducible rfl
  simp only [Act.put]
  refine tb 5 ?_ rfl (by kernel_rfl) (fun _ _ _ h => h) (by assumption) ?_ ?_
  rotate_left
  · intro w hSw
    (try dsimp only at hSw)
    go_simp
    all_goals with_reducible rfl
  simp only [Act.put]
  refine rr 6 (o := _) rfl (by kernel_rfl) (fun K hK => ?_)
  go_simp
  refine hK.out _ _ ⟨(Only.set (F := (· = kB)) X kB 0 _ rfl).cell u1 (fun e => hkb e), (Only.set (F := (· = kB)) X kB 0 _ rfl).cell w0 (fun e => hfb e)⟩ (fun hHeld => ?_)
  clear hK
  refine wpAnyH_done (by kernel_rfl) ?_ _
  go_wp2
  go_ret
  have hoY : Only (· = kB) X ((X.setCell ⟨kB, 0, none⟩ (.slice A (n - j) (k.oc - j))).drew) := (Only.set (F := (· = kB)) X kB 0 _ rfl).drew
  have hlen : (k.out.drop j).length = n - j := by rw [List.length_drop, HN.out]
  have hbk : ∀ a, A = some a → InB k.op a.block := fun a ha => by
    rw [← HA.out] at ha
    split at ha
    · exact ⟨a, ha, rfl⟩
    · obtain ⟨p', hp', hq⟩ := Option.map_eq_some_iff.1 ha
      exact ⟨p', hp', by rw [← hq]; simp [Addr.add]; split <;> rfl⟩
  refine ⟨kB, fB, A, k.oc - j, rfl, ⟨?_, hoY.cell w0 (fun e => hfb e), ?_⟩, HFB.out.2.1, HFB.out.1, hbk, HBX.out.trans (hoY.below HBX.out.size (fun i e => by have e' : i = kB := e; have := HFB.out; omega))⟩
  · rw [hlen]
    exact cellB (heap_set_sameL HK.out 0 _) rfl
  · have ht := HT.out
    rw [HA.out] at ht
    exact ht.only hoY (fun a ha e => by have e' : a.block = kB := e; have := (HP.out.lt (.inr (.inr (.inl (hbk a ha))))).2; have := HFB.out; omega)
set_option maxRecDepth 100000 in
set_option maxHeartbeats 2000000 in
theorem all_any {W : World} {B : Nat} {k : PK} (h : PS B W k) :
    Calls Try.prog 60 #[.pointer (some ⟨k.b, 0, none⟩)] W (TellA W 0 k.out (InB k.op)) := by
  have HP := hide h
  clear h
  go_enter Try.func60, Try.ntmps60
  go_wp2_with fail
  refine (tell_any (j := 0) HP.out (Nat.zero_le _)).mono ?_
  intro e w1 ht
  obtain ⟨kb, fb, p1, c1, rfl, h1, h2, h3, h4, h5⟩ := ht
  have H1 := hide h1
  have H2 := hide h2
  have H3 := hide h3
  have H4 := hide h4
  have H5 := hide h5
  clear h1 h2 h3 h4 h5
  go_wp2
  go_ret
  exact ⟨kb, fb, p1, c1, rfl, H1.out, H2.out, H3.out, H4.out, H5.out⟩
end Go.Proofs.Ytboofnkajjnmeaa
