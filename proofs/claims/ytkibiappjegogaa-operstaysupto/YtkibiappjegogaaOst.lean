/-
  Step of an operator that keeps something of each key: a fold, a window. The conditions: lengths, counts.
-/
import Derived.Test.YtkibiappjegogaaOde
import Derived.Test.YtkibiappjegogaaStp
import Derived.Test.YtkibiappjegogaaOpt
import Derived.Deep.RegionHeld3
namespace Go.Proofs.Ytkibiappjegogaa
open Go.RowKit

theorem KRow.of_own {W : World} {base n cap : Nat} {p : Option Addr} {ks : List KS} (hn : ks.length = n) (h : W.ownsRow base 51 3 (.slice p n cap) n (ks.flatMap KS.cells)) : KRow W p cap ks := by
  obtain ⟨h1, h2, h3, h4⟩ := own_list (cells := KS.cells) (fun o _ => o.len) hn h
  exact ⟨by omega, h2, h3, h4⟩
set_option maxRecDepth 100000 in
set_option maxHeartbeats 1000000 in
theorem ksClone {W : World} {p : Option Addr} {n c : Nat} {ks : List KS} (h : KRow W p c ks) (hn : ks.length = n) (hb : n * 24 ≤ 140737488355328) :
    Calls Try.prog 24 #[.slice p n c] W fun e w' => ∃ p' c', e = .returned (.slice p' n c') ∧ w'.ownsRow W.heap.size 51 3 (.slice p' n c') n (ks.flatMap KS.cells) ∧ Below W.heap.size W w' := by
  obtain ⟨i0, hI0, hz0, hz1, hz2⟩ := info_parts Try.infoKeyS
  have q : ∀ (w : World) (a : Option Addr) (n c : Nat), (binOp .eql 26 (.slice a n c) (.slice none 0 0)).run Try.prog w = .ok (.bool a.isNone) w := fun w a n c => Lib.run_eql_slice_nil w _ _ a n c 0 0 Try.underlying26
  obtain ⟨g1, g2, g3, g4⟩ := h
  cases p with
  | none =>
    obtain rfl : ks = [] := by
      cases ks with
      | nil => rfl
      | cons x ks =>
        have := g4 0 (by simp)
        simp at this
    obtain rfl : n = 0 := hn.symm
    clear g4
    go_enter Try.func24, Try.ntmps24
    go_wp2
    go_ret
    exact ⟨none, 0, rfl, World.ownsRow_nil _ _ _ _, Below.refl _ _⟩
  | some ad =>
    have hsg : Seg W 3 (.slice (some ad) ks.length c) ks.length (ks.flatMap KS.cells) := Seg.of_list (by decide) (fun o _ => o.len) (fun o ho u hu => ks_one ks u (List.mem_flatMap.2 ⟨o, ho, hu⟩)) g1 g2 g3 g4
    rw [hn] at hsg
    have HSG := hide (hsg.below ((Below.refl _ W).alloc (Nat.le_refl _) (.cells #[] 51 (0, 0))))
    have HK1 : Hid (0 + n ≤ maxLen) := by show _ ≤ _; unfold maxLen; omega
    have HK2 : Hid ((0 + n) * 24 ≤ 140737488355328) := by show _ ≤ _; omega
    clear g3 g4 hsg
    go_enter Try.func24, Try.ntmps24
    go_wp2_with (at_builtin; refine append_cells _ rfl (.tmp 5) (.tmp 6) 26 rfl W.heap.size 51 i0 (.agg #[.int .i64 0, .int .i64 0, .int .i64 0]) 3 24 Try.underlying26 hI0 hz0 hz1 hz2 rfl (by decide) (.slice (some ⟨W.heap.size, 0, none⟩) 0 0) 0 [] rfl (World.ownsRow_made W #[] 0 (Nat.le_refl _) (Nat.zero_le _) rfl) (.slice (some ad) n c) n _ rfl HSG.out HK1.out HK2.out (by simp) ?_)
    intro p' c' w1 hown hgrow
    have HO := hide hown
    have HB : Hid (Below W.heap.size W w1) := hide (((Below.refl _ W).alloc (Nat.le_refl _) _).grown hgrow (by simp) (by intro k hk; simp [Value.ownBlock] at hk; omega))
    clear hown hgrow
    go_wp2
    go_ret
    exact ⟨p', c', rfl, HO.out, HB.out⟩
/-- What Step makes of what is kept. -/
def hadK (ks : List KS) (ky : Int) (i : Nat) (fd : Bool) : KS := if fd = true then ks[i]! else ⟨ky, 0, 0⟩
def nowK (fn : Int) (h : KS) (vl : Int) : KS := ⟨h.key, countC h.cnt, accC fn h.cnt h.acc vl⟩
def stepK (kd fn ar : Int) (ks : List KS) (ky vl : Int) (i : Nat) (fd : Bool) : List KS :=
  if fd = true then (if staysC kd ar (hadK ks ky i fd).cnt = true then ks.set i (nowK fn (hadK ks ky i fd) vl) else ks.take i ++ ks.drop (i + 1))
  else (if staysC kd ar (hadK ks ky i fd).cnt = true then ks.take i ++ nowK fn (hadK ks ky i fd) vl :: ks.drop i else ks)
def outK (kd fn ar : Int) (ks : List KS) (ky vl : Int) (i : Nat) (fd : Bool) : List PU := tellC kd (staysC kd ar (hadK ks ky i fd).cnt) (hadK ks ky i fd).key (nowK fn (hadK ks ky i fd) vl).acc
theorem heap_setS {W : World} {b : Nat} {cs : Array Value} {t : TypeId} (h : W.heap[b]? = some (.cells cs t (0, 0))) (o : Nat) (v : Value) : (W.setCell ⟨b, o, none⟩ v).heap[b]? = some (.cells (cs.setIfInBounds o v) t (0, 0)) := by
  simp only [World.setCell]
  rw [Array.getElem?_modify, if_pos rfl, h]
  rfl
theorem set3K {ks : List KS} {i : Nat} (hi : i < ks.length) (a b c : Int) : (((ks.flatMap KS.cells).set (i * 3) (.int .i64 a)).set (i * 3 + 1) (.int .i64 b)).set (i * 3 + 2) (.int .i64 c) = (ks.set i ⟨a, b, c⟩).flatMap KS.cells := by
  obtain ⟨x, hx⟩ : ∃ x, ks[i]! = x := ⟨_, rfl⟩
  have g0 : (ks.set i ⟨a, x.cnt, x.acc⟩)[i]! = ⟨a, x.cnt, x.acc⟩ := by rw [getElem!_pos _ i (by simpa using hi), List.getElem_set_self]
  have g1 : (ks.set i ⟨a, b, x.acc⟩)[i]! = ⟨a, b, x.acc⟩ := by rw [getElem!_pos _ i (by simpa using hi), List.getElem_set_self]
  have f0 := flat_set (cells := KS.cells) (size := 3) ks (fun o _ => o.len) i 0 ⟨a, x.cnt, x.acc⟩ (.int .i64 a) hi (by decide) (by rw [hx]; rfl)
  have f1 := flat_set (cells := KS.cells) (size := 3) (ks.set i ⟨a, x.cnt, x.acc⟩) (fun o _ => o.len) i 1 ⟨a, b, x.acc⟩ (.int .i64 b) (by simpa using hi) (by decide) (by rw [g0]; rfl)
  have f2 := flat_set (cells := KS.cells) (size := 3) (ks.set i ⟨a, b, x.acc⟩) (fun o _ => o.len) i 2 ⟨a, b, c⟩ (.int .i64 c) (by simpa using hi) (by decide) (by rw [g1]; rfl)
  rw [List.set_set] at f1 f2
  rw [f2, f1, f0]
  rfl
theorem only_set3K (w : World) (b o : Nat) (d0 d1 d2 : Value) : Only (· = b) w (((w.setCell ⟨b, o, none⟩ d0).setCell ⟨b, o + 1, none⟩ d1).setCell ⟨b, o + 2, none⟩ d2) :=
  ((Only.set (F := (· = b)) w b o d0 rfl).trans (Only.set (F := (· = b)) _ b (o + 1) d1 rfl)).trans (Only.set (F := (· = b)) _ b (o + 2) d2 rfl)
structure Fr (X : World) (oB sB rB tB : Nat) (kd pt fn ar : Int) (ip : Option Addr) (n0 ic : Nat) (p : Option Addr) (n c : Nat) (tn ky vl : Int) : Prop where
  o : X.heap[oB]? = some (.cells #[.int .i64 kd, .int .i64 pt, .int .i64 fn, .int .i64 ar, .slice ip n0 ic] 35 (0, 0))
  s : X.heap[sB]? = some (.cells #[.slice p n c, .int .i64 tn] 28 (0, 0))
  r : X.heap[rB]? = some (.cells #[.int .i64 ky, .int .i64 vl] 38 (0, 0))
  t : X.heap[tB]? = some (.cells #[.slice none 0 0, .int .i64 0] 28 (0, 0))
theorem enTell : ∀ args w, (callFunc 27 args).run Try.prog w = .ok (.enter 27 args) w := enters_of Try.func27 (by kernel_rfl) rfl
set_option maxRecDepth 100000 in
set_option maxHeartbeats 8000000 in
theorem step_keeps {W : World} {kd pt fn ar tn ky vl : Int} {ip p : Option Addr} {n0 ic n c : Nat} {ks : List KS} (hkp : keepsC kd = true) (h : KRow W p c ks) (hn : ks.length = n) (hb : n ≤ 1048576) (hki : ∀ x ∈ ks, I6 x.cnt) :
    Calls Try.prog 9 #[.agg #[.int .i64 kd, .int .i64 pt, .int .i64 fn, .int .i64 ar, .slice ip n0 ic], .agg #[.slice p n c, .int .i64 tn], .agg #[.int .i64 ky, .int .i64 vl]] W fun e w' => ∃ i fd pk ck K po co N, Found1 ks ky i fd ∧ e = .returned (.tuple #[.agg #[.slice pk K ck, .int .i64 tn], .slice po N co]) ∧ (stepK kd fn ar ks ky vl i fd).length = K ∧ (outK kd fn ar ks ky vl i fd).length = N ∧ w'.ownsRow W.heap.size 51 3 (.slice pk K ck) K ((stepK kd fn ar ks ky vl i fd).flatMap KS.cells) ∧ w'.ownsRow W.heap.size 43 3 (.slice po N co) N ((outK kd fn ar ks ky vl i fd).flatMap PU.cells) ∧ Below W.heap.size W w' := by
  obtain ⟨V1, hV1⟩ : ∃ V, V = W.alloc (.cells #[.int .i64 kd, .int .i64 pt, .int .i64 fn, .int .i64 ar, .slice ip n0 ic] 35 (0, 0)) := ⟨_, rfl⟩
  obtain ⟨V2, hV2⟩ : ∃ V, V = V1.alloc (.cells #[.slice p n c, .int .i64 tn] 28 (0, 0)) := ⟨_, rfl⟩
  obtain ⟨V3, hV3⟩ : ∃ V, V = V2.alloc (.cells #[.int .i64 ky, .int .i64 vl] 38 (0, 0)) := ⟨_, rfl⟩
  obtain ⟨V, hV⟩ : ∃ V, V = V3.alloc (.cells #[.slice none 0 0, .int .i64 0] 28 (0, 0)) := ⟨_, rfl⟩
  obtain ⟨oB, hoB⟩ : ∃ oB, W.heap.size = oB := ⟨_, rfl⟩
  obtain ⟨sB, hsB⟩ : ∃ sB, oB + 1 = sB := ⟨_, rfl⟩
  obtain ⟨rB, hrB⟩ : ∃ rB, sB + 1 = rB := ⟨_, rfl⟩
  obtain ⟨tB, htB⟩ : ∃ tB, rB + 1 = tB := ⟨_, rfl⟩
  have s1 : V1.heap.size = sB := by rw [hV1, ← hsB, ← hoB]; simp
  have s2 : V2.heap.size = rB := by rw [hV2]; simp [s1, hrB]
  have s3 : V3.heap.size = tB := by rw [hV3]; simp [s2, htB]
  have s4 : V.heap.size = tB + 1 := by rw [hV]; simp [s3]
  have HWO : Hid (W.heap.size = oB) := hide hoB
  have b1 : Below W.heap.size W V1 := by rw [hV1]; exact alloc_below _ _
  have b2 : Below V1.heap.size V1 V2 := by rw [hV2]; exact alloc_below _ _
  have b3 : Below V2.heap.size V2 V3 := by rw [hV3]; exact alloc_below _ _
  have b4 : Below V3.heap.size V3 V := by rw [hV]; exact alloc_below _ _
  have u1 : V1.heap[oB]? = some (.cells #[.int .i64 kd, .int .i64 pt, .int .i64 fn, .int .i64 ar, .slice ip n0 ic] 35 (0, 0)) := by rw [hV1, ← hoB]; exact heap_alloc_new W _
  have u2 : V2.heap[sB]? = some (.cells #[.slice p n c, .int .i64 tn] 28 (0, 0)) := by rw [hV2, ← s1]; exact heap_alloc_new V1 _
  have u3 : V3.heap[rB]? = some (.cells #[.int .i64 ky, .int .i64 vl] 38 (0, 0)) := by rw [hV3, ← s2]; exact heap_alloc_new V2 _
  have u4 : V.heap[tB]? = some (.cells #[.slice none 0 0, .int .i64 0] 28 (0, 0)) := by rw [hV, ← s3]; exact heap_alloc_new V3 _
  have bV : Below W.heap.size W V := ((b1.trans (b2.mono (by omega))).trans (b3.mono (by omega))).trans (b4.mono (by omega))
  have HFR : Hid (∀ X, Below V.heap.size V X → Fr X oB sB rB tB kd pt fn ar ip n0 ic p n c tn ky vl) := hide (fun X hX => ⟨below_box hX (below_box b4 (below_box b3 (below_box b2 u1))), below_box hX (below_box b4 (below_box b3 u2)), below_box hX (below_box b4 u3), below_box hX u4⟩)
  have HK := hide (h.later bV)
  have HN0 := hide hn
  have HKI := hide hki
  have HBW := hide bV
  have HKP := hide hkp
  have hF0 := HFR.out V (Below.refl _ _)
  have x0 : V.cell? ⟨oB, 0, none⟩ = some (.int .i64 kd) := by simp [World.cell?, hF0.o]
  have x1 : V.cell? ⟨oB, 1, none⟩ = some (.int .i64 pt) := by simp [World.cell?, hF0.o]
  have x2 : V.cell? ⟨oB, 2, none⟩ = some (.int .i64 fn) := by simp [World.cell?, hF0.o]
  have x3 : V.cell? ⟨oB, 3, none⟩ = some (.int .i64 ar) := by simp [World.cell?, hF0.o]
  have x4 : V.cell? ⟨oB, 4, none⟩ = some (.slice ip n0 ic) := by simp [World.cell?, hF0.o]
  clear h hn hki bV hkp b1 b2 b3 b4 u1 u2 u3 u4 hF0
  go_enter Try.func9, Try.ntmps9
  go_upto_region 1 with fail
  rw [← hV1, ← hV2, ← hV3, ← hV]
  try rw [hoB]
  try rw [hsB]
  try rw [hrB]
  try rw [htB]
  have hl1 : oB < sB := by omega
  have hl2 : sB < rB := by omega
  have hl3 : rB < tB := by omega
  clear hV1 hV2 hV3 hV hoB s1 s2 s3 hsB hrB htB
  go_wp2_with fail
  refine keeps_any.mono ?_
  rw [HKP.out]
  rintro _ w1 ⟨rfl, b1⟩
  have HB1 := hide b1
  have hF1 := HFR.out w1 b1
  have y0 : w1.cell? ⟨sB, 0, none⟩ = some (.slice p n c) := by simp [World.cell?, hF1.s]
  have y1 : w1.cell? ⟨rB, 0, none⟩ = some (.int .i64 ky) := by simp [World.cell?, hF1.r]
  clear b1 x0 x1 x2 x3 x4 hF1
  go_wp2_with fail
  refine (osearch_any (HK.out.later HB1.out) HN0.out).mono ?_
  rintro _ w2 ⟨i, fd, rfl, hfd, b2⟩
  have HFD := hide hfd
  have HB2 := hide (HB1.out.trans (b2.mono HB1.out.size))
  have hF2 := HFR.out w2 HB2.out
  have y2 : w2.cell? ⟨rB, 0, none⟩ = some (.int .i64 ky) := by simp [World.cell?, hF2.r]
  clear hfd b2 y0 y1 HB1 hF2
  go_upto_region 5 with fail
  obtain ⟨X2, hX2⟩ : ∃ X2, X2 = w2.alloc (.cells #[.int .i64 ky, .int .i64 0, .int .i64 0] 51 (0, 0)) := ⟨_, rfl⟩
  rw [← hX2]
  have bX2 : Below w2.heap.size w2 X2 := by rw [hX2]; exact alloc_below _ _
  obtain ⟨hB, hhB⟩ : ∃ hB, w2.heap.size = hB := ⟨_, rfl⟩
  have hh2 : X2.heap[hB]? = some (.cells #[.int .i64 ky, .int .i64 0, .int .i64 0] 51 (0, 0)) := by rw [hX2, ← hhB]; exact heap_alloc_new w2 _
  have HBX := hide (HB2.out.trans (bX2.mono HB2.out.size))
  have hVh : tB + 1 ≤ hB := by rw [← hhB, ← s4]; exact HB2.out.size
  rw [hhB]
  clear hX2 bX2 hhB y2 HB2
  cases fd with
  | false =>
    have HHB := hide hh2
    have HCI : Hid (I6 0) := hide ⟨by decide, by decide⟩
    clear hh2
    have hFH := HFR.out X2 HBX.out
    have x0 : X2.cell? ⟨oB, 0, none⟩ = some (.int .i64 kd) := by simp [World.cell?, hFH.o]
    have x1 : X2.cell? ⟨oB, 1, none⟩ = some (.int .i64 pt) := by simp [World.cell?, hFH.o]
    have x2 : X2.cell? ⟨oB, 2, none⟩ = some (.int .i64 fn) := by simp [World.cell?, hFH.o]
    have x3 : X2.cell? ⟨oB, 3, none⟩ = some (.int .i64 ar) := by simp [World.cell?, hFH.o]
    have x4 : X2.cell? ⟨oB, 4, none⟩ = some (.slice ip n0 ic) := by simp [World.cell?, hFH.o]
    have x5 : X2.cell? ⟨rB, 1, none⟩ = some (.int .i64 vl) := by simp [World.cell?, hFH.r]
    have x6 : X2.cell? ⟨hB, 0, none⟩ = some (.int .i64 ky) := by simp [World.cell?, HHB.out]
    have x7 : X2.cell? ⟨hB, 1, none⟩ = some (.int .i64 0) := by simp [World.cell?, HHB.out]
    have x8 : X2.cell? ⟨hB, 2, none⟩ = some (.int .i64 0) := by simp [World.cell?, HHB.out]
    obtain ⟨ac, hac⟩ : ∃ ac, accC fn 0 0 vl = ac := ⟨_, rfl⟩
    obtain ⟨cn, hcn⟩ : ∃ cn, countC 0 = cn := ⟨_, rfl⟩
    obtain ⟨sb, hsb⟩ : ∃ sb, staysC kd ar 0 = sb := ⟨_, rfl⟩
    have HAC := hide hac
    have HCN := hide hcn
    have HSB := hide hsb
    clear hac hcn hsb hFH
    go_wp2_with fail
    refine (next_any HCI.out HAC.out HCN.out HSB.out).mono ?_
    rintro _ w4 ⟨rfl, b4⟩
    have HB4 := hide (HBX.out.trans (b4.mono HBX.out.size))
    clear b4 x0 x1 x2 x3 x4 x5 x6 x7 x8
    go_upto_region 8 with fail
    obtain ⟨X5, hX5⟩ : ∃ X5, X5 = w4.alloc (.cells #[.int .i64 ky, .int .i64 cn, .int .i64 ac] 51 (0, 0)) := ⟨_, rfl⟩
    rw [← hX5]
    have bX5 : Below w4.heap.size w4 X5 := by rw [hX5]; exact alloc_below _ _
    obtain ⟨nB, hnB⟩ : ∃ nB, w4.heap.size = nB := ⟨_, rfl⟩
    have HN5 : Hid (X5.heap[nB]? = some (.cells #[.int .i64 ky, .int .i64 cn, .int .i64 ac] 51 (0, 0))) := by rw [hX5, ← hnB]; exact hide (heap_alloc_new w4 _)
    have HB5 := hide (HB4.out.trans (bX5.mono HB4.out.size))
    have hVn : tB + 1 ≤ nB := by rw [← hnB, ← s4]; exact HB4.out.size
    rw [hnB]
    have y5 : X5.cell? ⟨sB, 0, none⟩ = some (.slice p n c) := by simp [World.cell?, (HFR.out X5 HB5.out).s]
    clear hX5 bX5 hnB HB4
    go_wp2_with fail
    refine (ksClone (HK.out.later HB5.out) HN0.out (by omega)).mono ?_
    rintro _ w6 ⟨p6, c6, rfl, o6, b6⟩
    have HO6 := hide o6
    have HB6 := hide (HB5.out.trans (b6.mono HB5.out.size))
    have HN6 := hide (below_box b6 HN5.out)
    have hn5 := (Array.getElem?_eq_some_iff.1 HN5.out).1
    have HNL : Hid (nB < X5.heap.size) := hide hn5
    have hX5s : tB + 1 ≤ X5.heap.size := by omega
    have hX6 : X5.heap.size ≤ w6.heap.size := b6.size
    obtain ⟨_, _, ef6, f61, f62⟩ := own_form o6
    simp only [Value.slice.injEq, true_and] at ef6
    obtain ⟨rfl, rfl⟩ := ef6
    clear o6 b6 y5 hn5
    cases sb with
    | false =>
      have e1 : staysC kd ar 0 = false := HSB.out
      have e2 : accC fn 0 0 vl = ac := HAC.out
      have HRES : Hid (stepK kd fn ar ks ky vl i false = ks) := hide (by simp [stepK, hadK, e1])
      have HOUT : Hid (outK kd fn ar ks ky vl i false = tellC kd false ky ac) := hide (by simp [outK, hadK, nowK, e1, e2])
      have HKL : Hid (ks.length = n) := HN0
      have HKY : Hid (w6.ownsRow X5.heap.size 51 3 (.slice p6 n c6) n (ks.flatMap KS.cells)) := HO6
      have HBZ := HB6
      have HNZ := HN6
      clear e1 e2
      obtain ⟨PS, hPS⟩ : ∃ PS, tellC kd false ky ac = PS := ⟨_, rfl⟩
      have HFX := HFR.out _ HBZ.out
      have t1 : w6.cell? ⟨sB, 1, none⟩ = some (.int .i64 tn) := by simp [World.cell?, HFX.s]
      have z0 : w6.cell? ⟨nB, 0, none⟩ = some (.int .i64 ky) := by simp [World.cell?, HNZ.out]
      have z1 : w6.cell? ⟨nB, 1, none⟩ = some (.int .i64 cn) := by simp [World.cell?, HNZ.out]
      have z2 : w6.cell? ⟨nB, 2, none⟩ = some (.int .i64 ac) := by simp [World.cell?, HNZ.out]
      have o0 : w6.cell? ⟨oB, 0, none⟩ = some (.int .i64 kd) := by simp [World.cell?, HFX.o]
      have o1 : w6.cell? ⟨oB, 1, none⟩ = some (.int .i64 pt) := by simp [World.cell?, HFX.o]
      have o2 : w6.cell? ⟨oB, 2, none⟩ = some (.int .i64 fn) := by simp [World.cell?, HFX.o]
      have o3 : w6.cell? ⟨oB, 3, none⟩ = some (.int .i64 ar) := by simp [World.cell?, HFX.o]
      have o4 : w6.cell? ⟨oB, 4, none⟩ = some (.slice ip n0 ic) := by simp [World.cell?, HFX.o]
      have HTL : Hid (Calls Try.prog 27 #[.slice none 0 0, .agg #[.int .i64 kd, .int .i64 pt, .int .i64 fn, .int .i64 ar, .slice ip n0 ic], .agg #[.int .i64 ky, .int .i64 cn, .int .i64 ac], .bool false] w6.drew fun e w' => ∃ p' c', e = .returned (.slice p' (0 + (tellC kd false ky ac).length) c') ∧ w'.ownsRow w6.heap.size 43 3 (.slice p' (0 + (tellC kd false ky ac).length) c') (0 + (tellC kd false ky ac).length) (([] ++ tellC kd false ky ac).flatMap PU.cells) ∧ Only (fun i => (Value.slice none 0 0).ownBlock = some i) w6.drew w') := hide (tell_any (W := w6.drew) (base := w6.heap.size) (World.ownsRow_nil _ _ _ _) (Nat.le_refl _) (by decide))
      simp only [Nat.zero_add, List.nil_append] at HTL
      rw [hPS] at HTL
      obtain ⟨N, hN⟩ : ∃ N, PS.length = N := ⟨_, rfl⟩
      rw [hN] at HTL
      have HPS := hide hPS
      have HN := hide hN
      have HT3 := hide HFX.t
      clear hPS hN HFX
      go_upto_region 15 with fail
      have HSS : Hid (∀ X, Below w6.heap.size w6 X → ((((X.cell? ⟨oB, 0, none⟩ = some (.int .i64 kd) ∧ X.cell? ⟨oB, 1, none⟩ = some (.int .i64 pt)) ∧ X.cell? ⟨oB, 2, none⟩ = some (.int .i64 fn) ∧ X.cell? ⟨oB, 3, none⟩ = some (.int .i64 ar)) ∧ X.cell? ⟨oB, 4, none⟩ = some (.slice ip n0 ic)) ∧ X.cell? ⟨sB, 1, none⟩ = some (.int .i64 tn)) ∧ (X.cell? ⟨nB, 0, none⟩ = some (.int .i64 ky) ∧ X.cell? ⟨nB, 1, none⟩ = some (.int .i64 cn)) ∧ X.cell? ⟨nB, 2, none⟩ = some (.int .i64 ac)) := hide (fun X hX => ⟨⟨⟨⟨⟨cell_later hX o0, cell_later hX o1⟩, cell_later hX o2, cell_later hX o3⟩, cell_later hX o4⟩, cell_later hX t1⟩, ⟨cell_later hX z0, cell_later hX z1⟩, cell_later hX z2⟩)
      have HST : Hid (∀ (X : World) (v1 v2 : Value), (((((X.cell? ⟨oB, 0, none⟩ = some (.int .i64 kd) ∧ X.cell? ⟨oB, 1, none⟩ = some (.int .i64 pt)) ∧ X.cell? ⟨oB, 2, none⟩ = some (.int .i64 fn) ∧ X.cell? ⟨oB, 3, none⟩ = some (.int .i64 ar)) ∧ X.cell? ⟨oB, 4, none⟩ = some (.slice ip n0 ic)) ∧ X.cell? ⟨sB, 1, none⟩ = some (.int .i64 tn)) ∧ (X.cell? ⟨nB, 0, none⟩ = some (.int .i64 ky) ∧ X.cell? ⟨nB, 1, none⟩ = some (.int .i64 cn)) ∧ X.cell? ⟨nB, 2, none⟩ = some (.int .i64 ac)) → (((((((X.setCell ⟨tB, 0, none⟩ v1).setCell ⟨tB, 1, none⟩ v2).cell? ⟨oB, 0, none⟩ = some (.int .i64 kd) ∧ ((X.setCell ⟨tB, 0, none⟩ v1).setCell ⟨tB, 1, none⟩ v2).cell? ⟨oB, 1, none⟩ = some (.int .i64 pt)) ∧ ((X.setCell ⟨tB, 0, none⟩ v1).setCell ⟨tB, 1, none⟩ v2).cell? ⟨oB, 2, none⟩ = some (.int .i64 fn) ∧ ((X.setCell ⟨tB, 0, none⟩ v1).setCell ⟨tB, 1, none⟩ v2).cell? ⟨oB, 3, none⟩ = some (.int .i64 ar)) ∧ ((X.setCell ⟨tB, 0, none⟩ v1).setCell ⟨tB, 1, none⟩ v2).cell? ⟨oB, 4, none⟩ = some (.slice ip n0 ic)) ∧ ((X.setCell ⟨tB, 0, none⟩ v1).setCell ⟨tB, 1, none⟩ v2).cell? ⟨sB, 1, none⟩ = some (.int .i64 tn)) ∧ (((X.setCell ⟨tB, 0, none⟩ v1).setCell ⟨tB, 1, none⟩ v2).cell? ⟨nB, 0, none⟩ = some (.int .i64 ky) ∧ ((X.setCell ⟨tB, 0, none⟩ v1).setCell ⟨tB, 1, none⟩ v2).cell? ⟨nB, 1, none⟩ = some (.int .i64 cn)) ∧ ((X.setCell ⟨tB, 0, none⟩ v1).setCell ⟨tB, 1, none⟩ v2).cell? ⟨nB, 2, none⟩ = some (.int .i64 ac))) := hide (fun X v1 v2 ⟨⟨⟨⟨⟨o0, o1⟩, o2, o3⟩, o4⟩, t1⟩, ⟨z0, z1⟩, z2⟩ => by
        have hO := (Only.set (F := (· = tB)) X tB 0 v1 rfl).trans (Only.set (F := (· = tB)) _ tB 1 v2 rfl)
        have n1 : ¬ (fun i => i = tB) oB := by show ¬ oB = tB; omega
        have n2 : ¬ (fun i => i = tB) sB := by show ¬ sB = tB; omega
        have n3 : ¬ (fun i => i = tB) nB := by show ¬ nB = tB; omega
        exact ⟨⟨⟨⟨⟨hO.cell o0 n1, hO.cell o1 n1⟩, hO.cell o2 n1, hO.cell o3 n1⟩, hO.cell o4 n1⟩, hO.cell t1 n2⟩, ⟨hO.cell z0 n3, hO.cell z1 n3⟩, hO.cell z2 n3⟩)
      have hne1 : ¬ nB = tB := by omega
      have hne2 : ¬ oB = tB := by omega
      have hne3 : ¬ sB = tB := by omega
      go_region_held3 (fun w' => ((((w'.cell? ⟨oB, 0, none⟩ = some (.int .i64 kd) ∧ w'.cell? ⟨oB, 1, none⟩ = some (.int .i64 pt)) ∧ w'.cell? ⟨oB, 2, none⟩ = some (.int .i64 fn) ∧ w'.cell? ⟨oB, 3, none⟩ = some (.int .i64 ar)) ∧ w'.cell? ⟨oB, 4, none⟩ = some (.slice ip n0 ic)) ∧ w'.cell? ⟨sB, 1, none⟩ = some (.int .i64 tn)) ∧ (w'.cell? ⟨nB, 0, none⟩ = some (.int .i64 ky) ∧ w'.cell? ⟨nB, 1, none⟩ = some (.int .i64 cn)) ∧ w'.cell? ⟨nB, 2, none⟩ = some (.int .i64 ac)) (first | (exact HST.out _ _ _ ⟨⟨⟨⟨⟨o0, o1⟩, o2, o3⟩, o4⟩, t1⟩, ⟨z0, z1⟩, z2⟩) | go_keep)
        (first | (go_at_call 27; refine HTL.out.mono ?_; rintro _ w9 ⟨pu, cu, rfl, o9, y9⟩; have B9 : Below w6.heap.size w6 w9 := (Below.refl _ w6).drew.trans (y9.below (Nat.le_refl _) (fun i e => by simp [Value.ownBlock] at e)); have ht9 := below_box B9 HT3.out; have f9 : w9.frozen? ⟨tB, 0, none⟩ = false := (by simp [World.frozen?, ht9]); have f9b : w9.frozen? ⟨tB, 1, none⟩ = false := (by simp [World.frozen?, ht9]); have c9 : w9.cell? ⟨tB, 0, none⟩ = some (.slice none 0 0) := (by simp [World.cell?, ht9]); have c9b : w9.cell? ⟨tB, 1, none⟩ = some (.int .i64 0) := (by simp [World.cell?, ht9]); have HT9 := hide ht9; have HO9 := hide o9; have HB9 := hide B9; obtain ⟨⟨⟨⟨⟨o0, o1⟩, o2, o3⟩, o4⟩, t1⟩, ⟨z0, z1⟩, z2⟩ := HSS.out _ B9; clear o9 y9 B9 ht9))
      all_goals
        have hE := heap_setS (heap_setS HT9.out 0 (.slice p6 n c6)) 1 (.int .i64 tn)
        have hO9 : Only (· = tB) w9 ((w9.setCell ⟨tB, 0, none⟩ (.slice p6 n c6)).setCell ⟨tB, 1, none⟩ (.int .i64 tn)) := (Only.set (F := (· = tB)) w9 tB 0 _ rfl).trans (Only.set (F := (· = tB)) _ tB 1 _ rfl)
        have HE := hide hE
        have HKF := hide (ownsRow_only (ownsRow_later HKY.out HB9.out) hO9 (fun b hb e => by have e' : b = tB := e; have := own_block_base HKY.out hb; omega))
        have hzs := HBZ.out.size
        have HOF := hide (ownsRow_only HO9.out hO9 (fun b hb e => by have e' : b = tB := e; have := own_block_base HO9.out hb; omega))
        have HBF : Hid (Below W.heap.size W ((w9.setCell ⟨tB, 0, none⟩ (.slice p6 n c6)).setCell ⟨tB, 1, none⟩ (.int .i64 tn))) := hide (((HBW.out.trans (HBZ.out.mono HBW.out.size)).trans (HB9.out.mono (Nat.le_trans HBW.out.size hzs))).trans (hO9.below (Nat.le_trans HBW.out.size (Nat.le_trans hzs HB9.out.size)) (fun b e => by have e' : b = tB := e; have := HWO.out; omega)))
        clear hE hO9 HTL
        go_wp2
        refine bodyPost_ret (results_cell_bool rfl _ _ tB 28 _ _ _ rfl HE.out Try.underlying28 rfl (by kernel_rfl)) rfl ?_
        exact ⟨i, false, p6, c6, n, pu, cu, N, HFD.out, rfl, by rw [HRES.out]; exact HKL.out, by rw [HOUT.out, HPS.out]; exact HN.out, by rw [HRES.out]; exact ownsRow_base HKF.out (by have := HWO.out; omega), by rw [HOUT.out, HPS.out]; exact ownsRow_base HOF.out (by have := HWO.out; omega), HBF.out⟩
    | true =>
      have e1 : staysC kd ar 0 = true := HSB.out
      have e2 : accC fn 0 0 vl = ac := HAC.out
      have e3 : countC 0 = cn := HCN.out
      have HRES : Hid (stepK kd fn ar ks ky vl i false = ks.take i ++ (⟨ky, cn, ac⟩ : KS) :: ks.drop i) := hide (by simp [stepK, hadK, nowK, e1, e2, e3])
      have HOUT : Hid (outK kd fn ar ks ky vl i false = tellC kd true ky ac) := hide (by simp [outK, hadK, nowK, e1, e2])
      have HKL : Hid ((ks.take i ++ (⟨ky, cn, ac⟩ : KS) :: ks.drop i).length = n + 1) := hide (by rw [List.length_append, List.length_cons, List.length_take, List.length_drop, HN0.out]; have := HFD.out.le; rw [HN0.out] at this; omega)
      have hab := alloc_below w6 (.cells #[.int .i64 ky, .int .i64 cn, .int .i64 ac] 51 (0, 0))
      have HAB := hide hab
      have z0 : w6.cell? ⟨nB, 0, none⟩ = some (.int .i64 ky) := by simp [World.cell?, HN6.out]
      have z1 : w6.cell? ⟨nB, 1, none⟩ = some (.int .i64 cn) := by simp [World.cell?, HN6.out]
      have z2 : w6.cell? ⟨nB, 2, none⟩ = some (.int .i64 ac) := by simp [World.cell?, HN6.out]
      have HINS := hide (insert_any (W := w6.alloc (.cells #[.int .i64 ky, .int .i64 cn, .int .i64 ac] 51 (0, 0))) (base := X5.heap.size) (vb := w6.heap.size) (i := i) (ownsRow_later HO6.out hab) HN0.out (heap_alloc_new w6 _) (fun a e => by have := (own_block_lt HO6.out (b := a.block) (by rw [e]; rfl)).1; omega) (by have := HFD.out.le; rw [HN0.out] at this; exact this) (by omega) (Nat.le_trans hX6 hab.size))
      clear e1 e2 e3 hab
      go_wp2_with fail
      refine HINS.out.mono ?_
      rintro _ w7 ⟨p7, c7, rfl, o7, y7⟩
      have HY7 : Hid (Only (InP p6) w6 w7) := hide ((Only.fresh HAB.out _).trans y7)
      have HKY := hide o7
      have HBZ : Hid (Below V.heap.size V w7) := hide (HB6.out.trans (HY7.out.below (Nat.le_trans HB5.out.size hX6) (fun b ⟨a, e, hb⟩ => by have := own_block_base HO6.out (b := a.block) (by rw [e]; rfl); have := HB5.out.size; omega)))
      have HNZ := hide (HY7.out.obj HN6.out (fun ⟨a, e, hb⟩ => by have := own_block_base HO6.out (b := a.block) (by rw [e]; rfl); have := HNL.out; omega))
      clear o7 y7 HINS HAB z0 z1 z2
      obtain ⟨PS, hPS⟩ : ∃ PS, tellC kd true ky ac = PS := ⟨_, rfl⟩
      have HFX := HFR.out _ HBZ.out
      have t1 : w7.cell? ⟨sB, 1, none⟩ = some (.int .i64 tn) := by simp [World.cell?, HFX.s]
      have z0 : w7.cell? ⟨nB, 0, none⟩ = some (.int .i64 ky) := by simp [World.cell?, HNZ.out]
      have z1 : w7.cell? ⟨nB, 1, none⟩ = some (.int .i64 cn) := by simp [World.cell?, HNZ.out]
      have z2 : w7.cell? ⟨nB, 2, none⟩ = some (.int .i64 ac) := by simp [World.cell?, HNZ.out]
      have o0 : w7.cell? ⟨oB, 0, none⟩ = some (.int .i64 kd) := by simp [World.cell?, HFX.o]
      have o1 : w7.cell? ⟨oB, 1, none⟩ = some (.int .i64 pt) := by simp [World.cell?, HFX.o]
      have o2 : w7.cell? ⟨oB, 2, none⟩ = some (.int .i64 fn) := by simp [World.cell?, HFX.o]
      have o3 : w7.cell? ⟨oB, 3, none⟩ = some (.int .i64 ar) := by simp [World.cell?, HFX.o]
      have o4 : w7.cell? ⟨oB, 4, none⟩ = some (.slice ip n0 ic) := by simp [World.cell?, HFX.o]
      have HTL : Hid (Calls Try.prog 27 #[.slice none 0 0, .agg #[.int .i64 kd, .int .i64 pt, .int .i64 fn, .int .i64 ar, .slice ip n0 ic], .agg #[.int .i64 ky, .int .i64 cn, .int .i64 ac], .bool true] w7.drew fun e w' => ∃ p' c', e = .returned (.slice p' (0 + (tellC kd true ky ac).length) c') ∧ w'.ownsRow w7.heap.size 43 3 (.slice p' (0 + (tellC kd true ky ac).length) c') (0 + (tellC kd true ky ac).length) (([] ++ tellC kd true ky ac).flatMap PU.cells) ∧ Only (fun i => (Value.slice none 0 0).ownBlock = some i) w7.drew w') := hide (tell_any (W := w7.drew) (base := w7.heap.size) (World.ownsRow_nil _ _ _ _) (Nat.le_refl _) (by decide))
      simp only [Nat.zero_add, List.nil_append] at HTL
      rw [hPS] at HTL
      obtain ⟨N, hN⟩ : ∃ N, PS.length = N := ⟨_, rfl⟩
      rw [hN] at HTL
      have HPS := hide hPS
      have HN := hide hN
      have HT3 := hide HFX.t
      clear hPS hN HFX
      go_upto_region 15 with fail
      have HSS : Hid (∀ X, Below w7.heap.size w7 X → ((((X.cell? ⟨oB, 0, none⟩ = some (.int .i64 kd) ∧ X.cell? ⟨oB, 1, none⟩ = some (.int .i64 pt)) ∧ X.cell? ⟨oB, 2, none⟩ = some (.int .i64 fn) ∧ X.cell? ⟨oB, 3, none⟩ = some (.int .i64 ar)) ∧ X.cell? ⟨oB, 4, none⟩ = some (.slice ip n0 ic)) ∧ X.cell? ⟨sB, 1, none⟩ = some (.int .i64 tn)) ∧ (X.cell? ⟨nB, 0, none⟩ = some (.int .i64 ky) ∧ X.cell? ⟨nB, 1, none⟩ = some (.int .i64 cn)) ∧ X.cell? ⟨nB, 2, none⟩ = some (.int .i64 ac)) := hide (fun X hX => ⟨⟨⟨⟨⟨cell_later hX o0, cell_later hX o1⟩, cell_later hX o2, cell_later hX o3⟩, cell_later hX o4⟩, cell_later hX t1⟩, ⟨cell_later hX z0, cell_later hX z1⟩, cell_later hX z2⟩)
      have HST : Hid (∀ (X : World) (v1 v2 : Value), (((((X.cell? ⟨oB, 0, none⟩ = some (.int .i64 kd) ∧ X.cell? ⟨oB, 1, none⟩ = some (.int .i64 pt)) ∧ X.cell? ⟨oB, 2, none⟩ = some (.int .i64 fn) ∧ X.cell? ⟨oB, 3, none⟩ = some (.int .i64 ar)) ∧ X.cell? ⟨oB, 4, none⟩ = some (.slice ip n0 ic)) ∧ X.cell? ⟨sB, 1, none⟩ = some (.int .i64 tn)) ∧ (X.cell? ⟨nB, 0, none⟩ = some (.int .i64 ky) ∧ X.cell? ⟨nB, 1, none⟩ = some (.int .i64 cn)) ∧ X.cell? ⟨nB, 2, none⟩ = some (.int .i64 ac)) → (((((((X.setCell ⟨tB, 0, none⟩ v1).setCell ⟨tB, 1, none⟩ v2).cell? ⟨oB, 0, none⟩ = some (.int .i64 kd) ∧ ((X.setCell ⟨tB, 0, none⟩ v1).setCell ⟨tB, 1, none⟩ v2).cell? ⟨oB, 1, none⟩ = some (.int .i64 pt)) ∧ ((X.setCell ⟨tB, 0, none⟩ v1).setCell ⟨tB, 1, none⟩ v2).cell? ⟨oB, 2, none⟩ = some (.int .i64 fn) ∧ ((X.setCell ⟨tB, 0, none⟩ v1).setCell ⟨tB, 1, none⟩ v2).cell? ⟨oB, 3, none⟩ = some (.int .i64 ar)) ∧ ((X.setCell ⟨tB, 0, none⟩ v1).setCell ⟨tB, 1, none⟩ v2).cell? ⟨oB, 4, none⟩ = some (.slice ip n0 ic)) ∧ ((X.setCell ⟨tB, 0, none⟩ v1).setCell ⟨tB, 1, none⟩ v2).cell? ⟨sB, 1, none⟩ = some (.int .i64 tn)) ∧ (((X.setCell ⟨tB, 0, none⟩ v1).setCell ⟨tB, 1, none⟩ v2).cell? ⟨nB, 0, none⟩ = some (.int .i64 ky) ∧ ((X.setCell ⟨tB, 0, none⟩ v1).setCell ⟨tB, 1, none⟩ v2).cell? ⟨nB, 1, none⟩ = some (.int .i64 cn)) ∧ ((X.setCell ⟨tB, 0, none⟩ v1).setCell ⟨tB, 1, none⟩ v2).cell? ⟨nB, 2, none⟩ = some (.int .i64 ac))) := hide (fun X v1 v2 ⟨⟨⟨⟨⟨o0, o1⟩, o2, o3⟩, o4⟩, t1⟩, ⟨z0, z1⟩, z2⟩ => by
        have hO := (Only.set (F := (· = tB)) X tB 0 v1 rfl).trans (Only.set (F := (· = tB)) _ tB 1 v2 rfl)
        have n1 : ¬ (fun i => i = tB) oB := by show ¬ oB = tB; omega
        have n2 : ¬ (fun i => i = tB) sB := by show ¬ sB = tB; omega
        have n3 : ¬ (fun i => i = tB) nB := by show ¬ nB = tB; omega
        exact ⟨⟨⟨⟨⟨hO.cell o0 n1, hO.cell o1 n1⟩, hO.cell o2 n1, hO.cell o3 n1⟩, hO.cell o4 n1⟩, hO.cell t1 n2⟩, ⟨hO.cell z0 n3, hO.cell z1 n3⟩, hO.cell z2 n3⟩)
      have hne1 : ¬ nB = tB := by omega
      have hne2 : ¬ oB = tB := by omega
      have hne3 : ¬ sB = tB := by omega
      go_region_held3 (fun w' => ((((w'.cell? ⟨oB, 0, none⟩ = some (.int .i64 kd) ∧ w'.cell? ⟨oB, 1, none⟩ = some (.int .i64 pt)) ∧ w'.cell? ⟨oB, 2, none⟩ = some (.int .i64 fn) ∧ w'.cell? ⟨oB, 3, none⟩ = some (.int .i64 ar)) ∧ w'.cell? ⟨oB, 4, none⟩ = some (.slice ip n0 ic)) ∧ w'.cell? ⟨sB, 1, none⟩ = some (.int .i64 tn)) ∧ (w'.cell? ⟨nB, 0, none⟩ = some (.int .i64 ky) ∧ w'.cell? ⟨nB, 1, none⟩ = some (.int .i64 cn)) ∧ w'.cell? ⟨nB, 2, none⟩ = some (.int .i64 ac)) (first | (exact HST.out _ _ _ ⟨⟨⟨⟨⟨o0, o1⟩, o2, o3⟩, o4⟩, t1⟩, ⟨z0, z1⟩, z2⟩) | go_keep)
        (first | (go_at_call 27; refine HTL.out.mono ?_; rintro _ w9 ⟨pu, cu, rfl, o9, y9⟩; have B9 : Below w7.heap.size w7 w9 := (Below.refl _ w7).drew.trans (y9.below (Nat.le_refl _) (fun i e => by simp [Value.ownBlock] at e)); have ht9 := below_box B9 HT3.out; have f9 : w9.frozen? ⟨tB, 0, none⟩ = false := (by simp [World.frozen?, ht9]); have f9b : w9.frozen? ⟨tB, 1, none⟩ = false := (by simp [World.frozen?, ht9]); have c9 : w9.cell? ⟨tB, 0, none⟩ = some (.slice none 0 0) := (by simp [World.cell?, ht9]); have c9b : w9.cell? ⟨tB, 1, none⟩ = some (.int .i64 0) := (by simp [World.cell?, ht9]); have HT9 := hide ht9; have HO9 := hide o9; have HB9 := hide B9; obtain ⟨⟨⟨⟨⟨o0, o1⟩, o2, o3⟩, o4⟩, t1⟩, ⟨z0, z1⟩, z2⟩ := HSS.out _ B9; clear o9 y9 B9 ht9))
      all_goals
        have hE := heap_setS (heap_setS HT9.out 0 (.slice p7 (n + 1) c7)) 1 (.int .i64 tn)
        have hO9 : Only (· = tB) w9 ((w9.setCell ⟨tB, 0, none⟩ (.slice p7 (n + 1) c7)).setCell ⟨tB, 1, none⟩ (.int .i64 tn)) := (Only.set (F := (· = tB)) w9 tB 0 _ rfl).trans (Only.set (F := (· = tB)) _ tB 1 _ rfl)
        have HE := hide hE
        have HKF := hide (ownsRow_only (ownsRow_later HKY.out HB9.out) hO9 (fun b hb e => by have e' : b = tB := e; have := own_block_base HKY.out hb; omega))
        have hzs := HBZ.out.size
        have HOF := hide (ownsRow_only HO9.out hO9 (fun b hb e => by have e' : b = tB := e; have := own_block_base HO9.out hb; omega))
        have HBF : Hid (Below W.heap.size W ((w9.setCell ⟨tB, 0, none⟩ (.slice p7 (n + 1) c7)).setCell ⟨tB, 1, none⟩ (.int .i64 tn))) := hide (((HBW.out.trans (HBZ.out.mono HBW.out.size)).trans (HB9.out.mono (Nat.le_trans HBW.out.size hzs))).trans (hO9.below (Nat.le_trans HBW.out.size (Nat.le_trans hzs HB9.out.size)) (fun b e => by have e' : b = tB := e; have := HWO.out; omega)))
        clear hE hO9 HTL
        go_wp2
        refine bodyPost_ret (results_cell_bool rfl _ _ tB 28 _ _ _ rfl HE.out Try.underlying28 rfl (by kernel_rfl)) rfl ?_
        exact ⟨i, false, p7, c7, (n + 1), pu, cu, N, HFD.out, rfl, by rw [HRES.out]; exact HKL.out, by rw [HOUT.out, HPS.out]; exact HN.out, by rw [HRES.out]; exact ownsRow_base HKF.out (by have := HWO.out; omega), by rw [HOUT.out, HPS.out]; exact ownsRow_base HOF.out (by have := HWO.out; omega), HBF.out⟩
  | true =>
    have hiy := HFD.out.yes rfl
    have hin : i < n := by rw [← HN0.out]; exact hiy.1
    obtain ⟨x, hx⟩ : ∃ x, ks[i]! = x := ⟨_, rfl⟩
    obtain ⟨h0, h1, h2⟩ := x
    have HX := hide hx
    have HCI : Hid (I6 h1) := hide (by
      have := HKI.out ks[i]! (by rw [getElem!_pos ks i hiy.1]; exact List.getElem_mem _)
      rw [hx] at this
      exact this)
    obtain ⟨g, o, rfl, hc⟩ := (HK.out.later HBX.out).2.2.2 i hiy.1
    rw [hx] at hc
    have a0 := hc 0 (by decide)
    have a1 := hc 1 (by decide)
    have a2 := hc 2 (by decide)
    simp only [KS.cells, List.getElem?_cons_zero, List.getElem?_cons_succ, Nat.add_zero] at a0 a1 a2
    have hkc := (HK.out).1
    rw [HN0.out] at hkc
    have hkt := (HK.out).2.1
    have y0 : X2.cell? ⟨sB, 0, none⟩ = some (.slice (some ⟨g, o, none⟩) n c) := by simp [World.cell?, (HFR.out X2 HBX.out).s]
    have v0 : X2.cell? ⟨hB, 0, none⟩ = some (.int .i64 ky) := by simp [World.cell?, hh2]
    have v1 : X2.cell? ⟨hB, 1, none⟩ = some (.int .i64 0) := by simp [World.cell?, hh2]
    have v2 : X2.cell? ⟨hB, 2, none⟩ = some (.int .i64 0) := by simp [World.cell?, hh2]
    have w0 : X2.frozen? ⟨hB, 0, none⟩ = false := by simp [World.frozen?, hh2]
    have w1' : X2.frozen? ⟨hB, 1, none⟩ = false := by simp [World.frozen?, hh2]
    have w2' : X2.frozen? ⟨hB, 2, none⟩ = false := by simp [World.frozen?, hh2]
    have HH2 := hide hh2
    clear hx hc hiy hh2
    go_upto_region 7 with fail
    obtain ⟨XH, hXH⟩ : ∃ XH, XH = ((X2.setCell ⟨hB, 0, none⟩ (.int .i64 h0)).setCell ⟨hB, 1, none⟩ (.int .i64 h1)).setCell ⟨hB, 2, none⟩ (.int .i64 h2) := ⟨_, rfl⟩
    rw [← hXH]
    have hOH : Only (· = hB) X2 XH := by rw [hXH]; exact only_set3K X2 hB 0 _ _ _
    have HHB : Hid (XH.heap[hB]? = some (.cells #[.int .i64 h0, .int .i64 h1, .int .i64 h2] 51 (0, 0))) := by rw [hXH]; exact hide (heap_setS (heap_setS (heap_setS HH2.out 0 _) 1 _) 2 _)
    have HBXH : Hid (Below V.heap.size V XH) := hide (HBX.out.trans (hOH.below HBX.out.size (fun b e => by have e' : b = hB := e; omega)))
    clear hXH hOH a0 a1 a2 y0 v0 v1 v2 w0 w1' w2' HH2 HBX
    have HBX := HBXH
    have hFH := HFR.out XH HBX.out
    have x0 : XH.cell? ⟨oB, 0, none⟩ = some (.int .i64 kd) := by simp [World.cell?, hFH.o]
    have x1 : XH.cell? ⟨oB, 1, none⟩ = some (.int .i64 pt) := by simp [World.cell?, hFH.o]
    have x2 : XH.cell? ⟨oB, 2, none⟩ = some (.int .i64 fn) := by simp [World.cell?, hFH.o]
    have x3 : XH.cell? ⟨oB, 3, none⟩ = some (.int .i64 ar) := by simp [World.cell?, hFH.o]
    have x4 : XH.cell? ⟨oB, 4, none⟩ = some (.slice ip n0 ic) := by simp [World.cell?, hFH.o]
    have x5 : XH.cell? ⟨rB, 1, none⟩ = some (.int .i64 vl) := by simp [World.cell?, hFH.r]
    have x6 : XH.cell? ⟨hB, 0, none⟩ = some (.int .i64 h0) := by simp [World.cell?, HHB.out]
    have x7 : XH.cell? ⟨hB, 1, none⟩ = some (.int .i64 h1) := by simp [World.cell?, HHB.out]
    have x8 : XH.cell? ⟨hB, 2, none⟩ = some (.int .i64 h2) := by simp [World.cell?, HHB.out]
    obtain ⟨ac, hac⟩ : ∃ ac, accC fn h1 h2 vl = ac := ⟨_, rfl⟩
    obtain ⟨cn, hcn⟩ : ∃ cn, countC h1 = cn := ⟨_, rfl⟩
    obtain ⟨sb, hsb⟩ : ∃ sb, staysC kd ar h1 = sb := ⟨_, rfl⟩
    have HAC := hide hac
    have HCN := hide hcn
    have HSB := hide hsb
    clear hac hcn hsb hFH
    go_wp2_with fail
    refine (next_any HCI.out HAC.out HCN.out HSB.out).mono ?_
    rintro _ w4 ⟨rfl, b4⟩
    have HB4 := hide (HBX.out.trans (b4.mono HBX.out.size))
    clear b4 x0 x1 x2 x3 x4 x5 x6 x7 x8
    go_upto_region 8 with fail
    obtain ⟨X5, hX5⟩ : ∃ X5, X5 = w4.alloc (.cells #[.int .i64 h0, .int .i64 cn, .int .i64 ac] 51 (0, 0)) := ⟨_, rfl⟩
    rw [← hX5]
    have bX5 : Below w4.heap.size w4 X5 := by rw [hX5]; exact alloc_below _ _
    obtain ⟨nB, hnB⟩ : ∃ nB, w4.heap.size = nB := ⟨_, rfl⟩
    have HN5 : Hid (X5.heap[nB]? = some (.cells #[.int .i64 h0, .int .i64 cn, .int .i64 ac] 51 (0, 0))) := by rw [hX5, ← hnB]; exact hide (heap_alloc_new w4 _)
    have HB5 := hide (HB4.out.trans (bX5.mono HB4.out.size))
    have hVn : tB + 1 ≤ nB := by rw [← hnB, ← s4]; exact HB4.out.size
    rw [hnB]
    have y5 : X5.cell? ⟨sB, 0, none⟩ = some (.slice (some ⟨g, o, none⟩) n c) := by simp [World.cell?, (HFR.out X5 HB5.out).s]
    clear hX5 bX5 hnB HB4
    go_wp2_with fail
    refine (ksClone (HK.out.later HB5.out) HN0.out (by omega)).mono ?_
    rintro _ w6 ⟨p6, c6, rfl, o6, b6⟩
    have HO6 := hide o6
    have HB6 := hide (HB5.out.trans (b6.mono HB5.out.size))
    have HN6 := hide (below_box b6 HN5.out)
    have hn5 := (Array.getElem?_eq_some_iff.1 HN5.out).1
    have HNL : Hid (nB < X5.heap.size) := hide hn5
    have hX5s : tB + 1 ≤ X5.heap.size := by omega
    have hX6 : X5.heap.size ≤ w6.heap.size := b6.size
    obtain ⟨_, _, ef6, f61, f62⟩ := own_form o6
    simp only [Value.slice.injEq, true_and] at ef6
    obtain ⟨rfl, rfl⟩ := ef6
    clear o6 b6 y5 hn5
    cases sb with
    | true =>
      obtain ⟨g6, rfl⟩ : ∃ g6, p6 = some ⟨g6, 0, none⟩ := by
        rcases HO6.out.2 with ⟨e', h0'⟩ | ⟨g', cap', cur, e', _⟩
        · omega
        · simp only [Value.slice.injEq, true_and] at e'
          exact ⟨g', e'.1⟩
      have hg6 := own_block_base HO6.out (b := g6) rfl
      have HG6 : Hid (X5.heap.size ≤ g6) := hide hg6
      have z0 : w6.cell? ⟨nB, 0, none⟩ = some (.int .i64 h0) := by simp [World.cell?, HN6.out]
      have z1 : w6.cell? ⟨nB, 1, none⟩ = some (.int .i64 cn) := by simp [World.cell?, HN6.out]
      have z2 : w6.cell? ⟨nB, 2, none⟩ = some (.int .i64 ac) := by simp [World.cell?, HN6.out]
      have e0 : hadK ks ky i true = ⟨h0, h1, h2⟩ := by simp [hadK, HX.out]
      clear hg6
      have e1 : staysC kd ar h1 = true := HSB.out
      have HRES : Hid (stepK kd fn ar ks ky vl i true = ks.set i ⟨h0, cn, ac⟩) := hide (by simp [stepK, e0, nowK, e1, HCN.out, HAC.out])
      have HOUT : Hid (outK kd fn ar ks ky vl i true = tellC kd true h0 ac) := hide (by simp [outK, e0, nowK, e1, HAC.out])
      have HKL : Hid ((ks.set i ⟨h0, cn, ac⟩).length = n) := hide (by rw [List.length_set]; exact HN0.out)
      have ht0 := own_someK HO6.out (i := i * 3) (by omega)
      have ht1 := own_someK HO6.out (i := i * 3 + 1) (by omega)
      have ht2 := own_someK HO6.out (i := i * 3 + 2) (by omega)
      obtain ⟨q0, hq0⟩ := Option.isSome_iff_exists.1 ht0
      obtain ⟨q1, hq1⟩ := Option.isSome_iff_exists.1 ht1
      obtain ⟨q2, hq2⟩ := Option.isSome_iff_exists.1 ht2
      have r0 := HO6.out.frozenAt (i * 3)
      have r1 := HO6.out.frozenAt (i * 3 + 1)
      have r2 := HO6.out.frozenAt (i * 3 + 2)
      clear e0 e1 ht0 ht1 ht2
      go_upto_region 15 with fail
      obtain ⟨Z, hZ⟩ : ∃ Z, Z = ((w6.setCell ⟨g6, i * 3, none⟩ (.int .i64 h0)).setCell ⟨g6, i * 3 + 1, none⟩ (.int .i64 cn)).setCell ⟨g6, i * 3 + 2, none⟩ (.int .i64 ac) := ⟨_, rfl⟩
      rw [← hZ]
      have hOZ : Only (· = g6) w6 Z := by rw [hZ]; exact only_set3K w6 g6 (i * 3) _ _ _
      have HKY : Hid (Z.ownsRow X5.heap.size 51 3 (.slice (some ⟨g6, 0, none⟩) n c6) n ((ks.set i ⟨h0, cn, ac⟩).flatMap KS.cells)) := by
        rw [hZ, ← set3K (by rw [HN0.out]; exact hin) h0 cn ac]
        exact hide (((HO6.out.stored (i * 3) _).1.stored (i * 3 + 1) _).1.stored (i * 3 + 2) _).1
      have HBZ : Hid (Below V.heap.size V Z) := hide (HB6.out.trans (hOZ.below (Nat.le_trans HB5.out.size hX6) (fun b e => by have e' : b = g6 := e; have := HG6.out; have := HB5.out.size; omega)))
      have HNZ := hide (hOZ.obj HN6.out (fun e => by have e' : nB = g6 := e; have := HG6.out; have := HNL.out; omega))
      clear hZ hOZ z0 z1 z2 hq0 hq1 hq2 r0 r1 r2
      obtain ⟨PS, hPS⟩ : ∃ PS, tellC kd true h0 ac = PS := ⟨_, rfl⟩
      have HFX := HFR.out _ HBZ.out
      have t1 : Z.cell? ⟨sB, 1, none⟩ = some (.int .i64 tn) := by simp [World.cell?, HFX.s]
      have z0 : Z.cell? ⟨nB, 0, none⟩ = some (.int .i64 h0) := by simp [World.cell?, HNZ.out]
      have z1 : Z.cell? ⟨nB, 1, none⟩ = some (.int .i64 cn) := by simp [World.cell?, HNZ.out]
      have z2 : Z.cell? ⟨nB, 2, none⟩ = some (.int .i64 ac) := by simp [World.cell?, HNZ.out]
      have o0 : Z.cell? ⟨oB, 0, none⟩ = some (.int .i64 kd) := by simp [World.cell?, HFX.o]
      have o1 : Z.cell? ⟨oB, 1, none⟩ = some (.int .i64 pt) := by simp [World.cell?, HFX.o]
      have o2 : Z.cell? ⟨oB, 2, none⟩ = some (.int .i64 fn) := by simp [World.cell?, HFX.o]
      have o3 : Z.cell? ⟨oB, 3, none⟩ = some (.int .i64 ar) := by simp [World.cell?, HFX.o]
      have o4 : Z.cell? ⟨oB, 4, none⟩ = some (.slice ip n0 ic) := by simp [World.cell?, HFX.o]
      have HTL : Hid (Calls Try.prog 27 #[.slice none 0 0, .agg #[.int .i64 kd, .int .i64 pt, .int .i64 fn, .int .i64 ar, .slice ip n0 ic], .agg #[.int .i64 h0, .int .i64 cn, .int .i64 ac], .bool true] Z.drew fun e w' => ∃ p' c', e = .returned (.slice p' (0 + (tellC kd true h0 ac).length) c') ∧ w'.ownsRow Z.heap.size 43 3 (.slice p' (0 + (tellC kd true h0 ac).length) c') (0 + (tellC kd true h0 ac).length) (([] ++ tellC kd true h0 ac).flatMap PU.cells) ∧ Only (fun i => (Value.slice none 0 0).ownBlock = some i) Z.drew w') := hide (tell_any (W := Z.drew) (base := Z.heap.size) (World.ownsRow_nil _ _ _ _) (Nat.le_refl _) (by decide))
      simp only [Nat.zero_add, List.nil_append] at HTL
      rw [hPS] at HTL
      obtain ⟨N, hN⟩ : ∃ N, PS.length = N := ⟨_, rfl⟩
      rw [hN] at HTL
      have HPS := hide hPS
      have HN := hide hN
      have HT3 := hide HFX.t
      clear hPS hN HFX
      go_upto_region 15 with fail
      have HSS : Hid (∀ X, Below Z.heap.size Z X → ((((X.cell? ⟨oB, 0, none⟩ = some (.int .i64 kd) ∧ X.cell? ⟨oB, 1, none⟩ = some (.int .i64 pt)) ∧ X.cell? ⟨oB, 2, none⟩ = some (.int .i64 fn) ∧ X.cell? ⟨oB, 3, none⟩ = some (.int .i64 ar)) ∧ X.cell? ⟨oB, 4, none⟩ = some (.slice ip n0 ic)) ∧ X.cell? ⟨sB, 1, none⟩ = some (.int .i64 tn)) ∧ (X.cell? ⟨nB, 0, none⟩ = some (.int .i64 h0) ∧ X.cell? ⟨nB, 1, none⟩ = some (.int .i64 cn)) ∧ X.cell? ⟨nB, 2, none⟩ = some (.int .i64 ac)) := hide (fun X hX => ⟨⟨⟨⟨⟨cell_later hX o0, cell_later hX o1⟩, cell_later hX o2, cell_later hX o3⟩, cell_later hX o4⟩, cell_later hX t1⟩, ⟨cell_later hX z0, cell_later hX z1⟩, cell_later hX z2⟩)
      have HST : Hid (∀ (X : World) (v1 v2 : Value), (((((X.cell? ⟨oB, 0, none⟩ = some (.int .i64 kd) ∧ X.cell? ⟨oB, 1, none⟩ = some (.int .i64 pt)) ∧ X.cell? ⟨oB, 2, none⟩ = some (.int .i64 fn) ∧ X.cell? ⟨oB, 3, none⟩ = some (.int .i64 ar)) ∧ X.cell? ⟨oB, 4, none⟩ = some (.slice ip n0 ic)) ∧ X.cell? ⟨sB, 1, none⟩ = some (.int .i64 tn)) ∧ (X.cell? ⟨nB, 0, none⟩ = some (.int .i64 h0) ∧ X.cell? ⟨nB, 1, none⟩ = some (.int .i64 cn)) ∧ X.cell? ⟨nB, 2, none⟩ = some (.int .i64 ac)) → (((((((X.setCell ⟨tB, 0, none⟩ v1).setCell ⟨tB, 1, none⟩ v2).cell? ⟨oB, 0, none⟩ = some (.int .i64 kd) ∧ ((X.setCell ⟨tB, 0, none⟩ v1).setCell ⟨tB, 1, none⟩ v2).cell? ⟨oB, 1, none⟩ = some (.int .i64 pt)) ∧ ((X.setCell ⟨tB, 0, none⟩ v1).setCell ⟨tB, 1, none⟩ v2).cell? ⟨oB, 2, none⟩ = some (.int .i64 fn) ∧ ((X.setCell ⟨tB, 0, none⟩ v1).setCell ⟨tB, 1, none⟩ v2).cell? ⟨oB, 3, none⟩ = some (.int .i64 ar)) ∧ ((X.setCell ⟨tB, 0, none⟩ v1).setCell ⟨tB, 1, none⟩ v2).cell? ⟨oB, 4, none⟩ = some (.slice ip n0 ic)) ∧ ((X.setCell ⟨tB, 0, none⟩ v1).setCell ⟨tB, 1, none⟩ v2).cell? ⟨sB, 1, none⟩ = some (.int .i64 tn)) ∧ (((X.setCell ⟨tB, 0, none⟩ v1).setCell ⟨tB, 1, none⟩ v2).cell? ⟨nB, 0, none⟩ = some (.int .i64 h0) ∧ ((X.setCell ⟨tB, 0, none⟩ v1).setCell ⟨tB, 1, none⟩ v2).cell? ⟨nB, 1, none⟩ = some (.int .i64 cn)) ∧ ((X.setCell ⟨tB, 0, none⟩ v1).setCell ⟨tB, 1, none⟩ v2).cell? ⟨nB, 2, none⟩ = some (.int .i64 ac))) := hide (fun X v1 v2 ⟨⟨⟨⟨⟨o0, o1⟩, o2, o3⟩, o4⟩, t1⟩, ⟨z0, z1⟩, z2⟩ => by
        have hO := (Only.set (F := (· = tB)) X tB 0 v1 rfl).trans (Only.set (F := (· = tB)) _ tB 1 v2 rfl)
        have n1 : ¬ (fun i => i = tB) oB := by show ¬ oB = tB; omega
        have n2 : ¬ (fun i => i = tB) sB := by show ¬ sB = tB; omega
        have n3 : ¬ (fun i => i = tB) nB := by show ¬ nB = tB; omega
        exact ⟨⟨⟨⟨⟨hO.cell o0 n1, hO.cell o1 n1⟩, hO.cell o2 n1, hO.cell o3 n1⟩, hO.cell o4 n1⟩, hO.cell t1 n2⟩, ⟨hO.cell z0 n3, hO.cell z1 n3⟩, hO.cell z2 n3⟩)
      have hne1 : ¬ nB = tB := by omega
      have hne2 : ¬ oB = tB := by omega
      have hne3 : ¬ sB = tB := by omega
      go_region_held3 (fun w' => ((((w'.cell? ⟨oB, 0, none⟩ = some (.int .i64 kd) ∧ w'.cell? ⟨oB, 1, none⟩ = some (.int .i64 pt)) ∧ w'.cell? ⟨oB, 2, none⟩ = some (.int .i64 fn) ∧ w'.cell? ⟨oB, 3, none⟩ = some (.int .i64 ar)) ∧ w'.cell? ⟨oB, 4, none⟩ = some (.slice ip n0 ic)) ∧ w'.cell? ⟨sB, 1, none⟩ = some (.int .i64 tn)) ∧ (w'.cell? ⟨nB, 0, none⟩ = some (.int .i64 h0) ∧ w'.cell? ⟨nB, 1, none⟩ = some (.int .i64 cn)) ∧ w'.cell? ⟨nB, 2, none⟩ = some (.int .i64 ac)) (first | (exact HST.out _ _ _ ⟨⟨⟨⟨⟨o0, o1⟩, o2, o3⟩, o4⟩, t1⟩, ⟨z0, z1⟩, z2⟩) | go_keep)
        (first | (go_at_call 27; refine HTL.out.mono ?_; rintro _ w9 ⟨pu, cu, rfl, o9, y9⟩; have B9 : Below Z.heap.size Z w9 := (Below.refl _ Z).drew.trans (y9.below (Nat.le_refl _) (fun i e => by simp [Value.ownBlock] at e)); have ht9 := below_box B9 HT3.out; have f9 : w9.frozen? ⟨tB, 0, none⟩ = false := (by simp [World.frozen?, ht9]); have f9b : w9.frozen? ⟨tB, 1, none⟩ = false := (by simp [World.frozen?, ht9]); have c9 : w9.cell? ⟨tB, 0, none⟩ = some (.slice none 0 0) := (by simp [World.cell?, ht9]); have c9b : w9.cell? ⟨tB, 1, none⟩ = some (.int .i64 0) := (by simp [World.cell?, ht9]); have HT9 := hide ht9; have HO9 := hide o9; have HB9 := hide B9; obtain ⟨⟨⟨⟨⟨o0, o1⟩, o2, o3⟩, o4⟩, t1⟩, ⟨z0, z1⟩, z2⟩ := HSS.out _ B9; clear o9 y9 B9 ht9))
      all_goals
        have hE := heap_setS (heap_setS HT9.out 0 (.slice (some ⟨g6, 0, none⟩) n c6)) 1 (.int .i64 tn)
        have hO9 : Only (· = tB) w9 ((w9.setCell ⟨tB, 0, none⟩ (.slice (some ⟨g6, 0, none⟩) n c6)).setCell ⟨tB, 1, none⟩ (.int .i64 tn)) := (Only.set (F := (· = tB)) w9 tB 0 _ rfl).trans (Only.set (F := (· = tB)) _ tB 1 _ rfl)
        have HE := hide hE
        have HKF := hide (ownsRow_only (ownsRow_later HKY.out HB9.out) hO9 (fun b hb e => by have e' : b = tB := e; have := own_block_base HKY.out hb; omega))
        have hzs := HBZ.out.size
        have HOF := hide (ownsRow_only HO9.out hO9 (fun b hb e => by have e' : b = tB := e; have := own_block_base HO9.out hb; omega))
        have HBF : Hid (Below W.heap.size W ((w9.setCell ⟨tB, 0, none⟩ (.slice (some ⟨g6, 0, none⟩) n c6)).setCell ⟨tB, 1, none⟩ (.int .i64 tn))) := hide (((HBW.out.trans (HBZ.out.mono HBW.out.size)).trans (HB9.out.mono (Nat.le_trans HBW.out.size hzs))).trans (hO9.below (Nat.le_trans HBW.out.size (Nat.le_trans hzs HB9.out.size)) (fun b e => by have e' : b = tB := e; have := HWO.out; omega)))
        clear hE hO9 HTL
        go_wp2
        refine bodyPost_ret (results_cell_bool rfl _ _ tB 28 _ _ _ rfl HE.out Try.underlying28 rfl (by kernel_rfl)) rfl ?_
        exact ⟨i, true, (some ⟨g6, 0, none⟩), c6, n, pu, cu, N, HFD.out, rfl, by rw [HRES.out]; exact HKL.out, by rw [HOUT.out, HPS.out]; exact HN.out, by rw [HRES.out]; exact ownsRow_base HKF.out (by have := HWO.out; omega), by rw [HOUT.out, HPS.out]; exact ownsRow_base HOF.out (by have := HWO.out; omega), HBF.out⟩
    | false =>
      obtain ⟨g6, rfl⟩ : ∃ g6, p6 = some ⟨g6, 0, none⟩ := by
        rcases HO6.out.2 with ⟨e', h0'⟩ | ⟨g', cap', cur, e', _⟩
        · omega
        · simp only [Value.slice.injEq, true_and] at e'
          exact ⟨g', e'.1⟩
      have hg6 := own_block_base HO6.out (b := g6) rfl
      have HG6 : Hid (X5.heap.size ≤ g6) := hide hg6
      have z0 : w6.cell? ⟨nB, 0, none⟩ = some (.int .i64 h0) := by simp [World.cell?, HN6.out]
      have z1 : w6.cell? ⟨nB, 1, none⟩ = some (.int .i64 cn) := by simp [World.cell?, HN6.out]
      have z2 : w6.cell? ⟨nB, 2, none⟩ = some (.int .i64 ac) := by simp [World.cell?, HN6.out]
      have e0 : hadK ks ky i true = ⟨h0, h1, h2⟩ := by simp [hadK, HX.out]
      clear hg6
      have e1 : staysC kd ar h1 = false := HSB.out
      have HRES : Hid (stepK kd fn ar ks ky vl i true = ks.take i ++ ks.drop (i + 1)) := hide (by simp [stepK, e0, e1])
      have HOUT : Hid (outK kd fn ar ks ky vl i true = tellC kd false h0 ac) := hide (by simp [outK, e0, nowK, e1, HAC.out])
      obtain ⟨m, rfl⟩ : ∃ m, n = m + 1 := ⟨n - 1, by omega⟩
      have HKL : Hid ((ks.take i ++ ks.drop (i + 1)).length = m) := hide (by rw [List.length_append, List.length_take, List.length_drop, HN0.out]; omega)
      have HDEL := hide (delete_at HO6.out HN0.out (i := i) (by omega))
      have qw : IntKind.i64.wrap ((i : Int) + 1) = (i : Int) + 1 := by rw [IntKind.wrap_i64]; omega
      clear e0 e1 z0 z1 z2
      go_wp2_with fail
      refine HDEL.out.mono ?_
      rintro _ w7 ⟨rfl, o7, y7⟩
      have HKY := hide o7
      have HBZ : Hid (Below V.heap.size V w7) := hide (HB6.out.trans (y7.below (Nat.le_trans HB5.out.size hX6) (fun b e => by have e' : b = g6 := e; have := HG6.out; have := HB5.out.size; omega)))
      have HNZ := hide (y7.obj HN6.out (fun e => by have e' : nB = g6 := e; have := HG6.out; have := HNL.out; omega))
      clear o7 y7 HDEL
      obtain ⟨PS, hPS⟩ : ∃ PS, tellC kd false h0 ac = PS := ⟨_, rfl⟩
      have HFX := HFR.out _ HBZ.out
      have t1 : w7.cell? ⟨sB, 1, none⟩ = some (.int .i64 tn) := by simp [World.cell?, HFX.s]
      have z0 : w7.cell? ⟨nB, 0, none⟩ = some (.int .i64 h0) := by simp [World.cell?, HNZ.out]
      have z1 : w7.cell? ⟨nB, 1, none⟩ = some (.int .i64 cn) := by simp [World.cell?, HNZ.out]
      have z2 : w7.cell? ⟨nB, 2, none⟩ = some (.int .i64 ac) := by simp [World.cell?, HNZ.out]
      have o0 : w7.cell? ⟨oB, 0, none⟩ = some (.int .i64 kd) := by simp [World.cell?, HFX.o]
      have o1 : w7.cell? ⟨oB, 1, none⟩ = some (.int .i64 pt) := by simp [World.cell?, HFX.o]
      have o2 : w7.cell? ⟨oB, 2, none⟩ = some (.int .i64 fn) := by simp [World.cell?, HFX.o]
      have o3 : w7.cell? ⟨oB, 3, none⟩ = some (.int .i64 ar) := by simp [World.cell?, HFX.o]
      have o4 : w7.cell? ⟨oB, 4, none⟩ = some (.slice ip n0 ic) := by simp [World.cell?, HFX.o]
      have HTL : Hid (Calls Try.prog 27 #[.slice none 0 0, .agg #[.int .i64 kd, .int .i64 pt, .int .i64 fn, .int .i64 ar, .slice ip n0 ic], .agg #[.int .i64 h0, .int .i64 cn, .int .i64 ac], .bool false] w7.drew fun e w' => ∃ p' c', e = .returned (.slice p' (0 + (tellC kd false h0 ac).length) c') ∧ w'.ownsRow w7.heap.size 43 3 (.slice p' (0 + (tellC kd false h0 ac).length) c') (0 + (tellC kd false h0 ac).length) (([] ++ tellC kd false h0 ac).flatMap PU.cells) ∧ Only (fun i => (Value.slice none 0 0).ownBlock = some i) w7.drew w') := hide (tell_any (W := w7.drew) (base := w7.heap.size) (World.ownsRow_nil _ _ _ _) (Nat.le_refl _) (by decide))
      simp only [Nat.zero_add, List.nil_append] at HTL
      rw [hPS] at HTL
      obtain ⟨N, hN⟩ : ∃ N, PS.length = N := ⟨_, rfl⟩
      rw [hN] at HTL
      have HPS := hide hPS
      have HN := hide hN
      have HT3 := hide HFX.t
      clear hPS hN HFX
      go_upto_region 15 with fail
      have HSS : Hid (∀ X, Below w7.heap.size w7 X → ((((X.cell? ⟨oB, 0, none⟩ = some (.int .i64 kd) ∧ X.cell? ⟨oB, 1, none⟩ = some (.int .i64 pt)) ∧ X.cell? ⟨oB, 2, none⟩ = some (.int .i64 fn) ∧ X.cell? ⟨oB, 3, none⟩ = some (.int .i64 ar)) ∧ X.cell? ⟨oB, 4, none⟩ = some (.slice ip n0 ic)) ∧ X.cell? ⟨sB, 1, none⟩ = some (.int .i64 tn)) ∧ (X.cell? ⟨nB, 0, none⟩ = some (.int .i64 h0) ∧ X.cell? ⟨nB, 1, none⟩ = some (.int .i64 cn)) ∧ X.cell? ⟨nB, 2, none⟩ = some (.int .i64 ac)) := hide (fun X hX => ⟨⟨⟨⟨⟨cell_later hX o0, cell_later hX o1⟩, cell_later hX o2, cell_later hX o3⟩, cell_later hX o4⟩, cell_later hX t1⟩, ⟨cell_later hX z0, cell_later hX z1⟩, cell_later hX z2⟩)
      have HST : Hid (∀ (X : World) (v1 v2 : Value), (((((X.cell? ⟨oB, 0, none⟩ = some (.int .i64 kd) ∧ X.cell? ⟨oB, 1, none⟩ = some (.int .i64 pt)) ∧ X.cell? ⟨oB, 2, none⟩ = some (.int .i64 fn) ∧ X.cell? ⟨oB, 3, none⟩ = some (.int .i64 ar)) ∧ X.cell? ⟨oB, 4, none⟩ = some (.slice ip n0 ic)) ∧ X.cell? ⟨sB, 1, none⟩ = some (.int .i64 tn)) ∧ (X.cell? ⟨nB, 0, none⟩ = some (.int .i64 h0) ∧ X.cell? ⟨nB, 1, none⟩ = some (.int .i64 cn)) ∧ X.cell? ⟨nB, 2, none⟩ = some (.int .i64 ac)) → (((((((X.setCell ⟨tB, 0, none⟩ v1).setCell ⟨tB, 1, none⟩ v2).cell? ⟨oB, 0, none⟩ = some (.int .i64 kd) ∧ ((X.setCell ⟨tB, 0, none⟩ v1).setCell ⟨tB, 1, none⟩ v2).cell? ⟨oB, 1, none⟩ = some (.int .i64 pt)) ∧ ((X.setCell ⟨tB, 0, none⟩ v1).setCell ⟨tB, 1, none⟩ v2).cell? ⟨oB, 2, none⟩ = some (.int .i64 fn) ∧ ((X.setCell ⟨tB, 0, none⟩ v1).setCell ⟨tB, 1, none⟩ v2).cell? ⟨oB, 3, none⟩ = some (.int .i64 ar)) ∧ ((X.setCell ⟨tB, 0, none⟩ v1).setCell ⟨tB, 1, none⟩ v2).cell? ⟨oB, 4, none⟩ = some (.slice ip n0 ic)) ∧ ((X.setCell ⟨tB, 0, none⟩ v1).setCell ⟨tB, 1, none⟩ v2).cell? ⟨sB, 1, none⟩ = some (.int .i64 tn)) ∧ (((X.setCell ⟨tB, 0, none⟩ v1).setCell ⟨tB, 1, none⟩ v2).cell? ⟨nB, 0, none⟩ = some (.int .i64 h0) ∧ ((X.setCell ⟨tB, 0, none⟩ v1).setCell ⟨tB, 1, none⟩ v2).cell? ⟨nB, 1, none⟩ = some (.int .i64 cn)) ∧ ((X.setCell ⟨tB, 0, none⟩ v1).setCell ⟨tB, 1, none⟩ v2).cell? ⟨nB, 2, none⟩ = some (.int .i64 ac))) := hide (fun X v1 v2 ⟨⟨⟨⟨⟨o0, o1⟩, o2, o3⟩, o4⟩, t1⟩, ⟨z0, z1⟩, z2⟩ => by
        have hO := (Only.set (F := (· = tB)) X tB 0 v1 rfl).trans (Only.set (F := (· = tB)) _ tB 1 v2 rfl)
        have n1 : ¬ (fun i => i = tB) oB := by show ¬ oB = tB; omega
        have n2 : ¬ (fun i => i = tB) sB := by show ¬ sB = tB; omega
        have n3 : ¬ (fun i => i = tB) nB := by show ¬ nB = tB; omega
        exact ⟨⟨⟨⟨⟨hO.cell o0 n1, hO.cell o1 n1⟩, hO.cell o2 n1, hO.cell o3 n1⟩, hO.cell o4 n1⟩, hO.cell t1 n2⟩, ⟨hO.cell z0 n3, hO.cell z1 n3⟩, hO.cell z2 n3⟩)
      have hne1 : ¬ nB = tB := by omega
      have hne2 : ¬ oB = tB := by omega
      have hne3 : ¬ sB = tB := by omega
      go_region_held3 (fun w' => ((((w'.cell? ⟨oB, 0, none⟩ = some (.int .i64 kd) ∧ w'.cell? ⟨oB, 1, none⟩ = some (.int .i64 pt)) ∧ w'.cell? ⟨oB, 2, none⟩ = some (.int .i64 fn) ∧ w'.cell? ⟨oB, 3, none⟩ = some (.int .i64 ar)) ∧ w'.cell? ⟨oB, 4, none⟩ = some (.slice ip n0 ic)) ∧ w'.cell? ⟨sB, 1, none⟩ = some (.int .i64 tn)) ∧ (w'.cell? ⟨nB, 0, none⟩ = some (.int .i64 h0) ∧ w'.cell? ⟨nB, 1, none⟩ = some (.int .i64 cn)) ∧ w'.cell? ⟨nB, 2, none⟩ = some (.int .i64 ac)) (first | (exact HST.out _ _ _ ⟨⟨⟨⟨⟨o0, o1⟩, o2, o3⟩, o4⟩, t1⟩, ⟨z0, z1⟩, z2⟩) | go_keep)
        (first | (go_at_call 27; refine HTL.out.mono ?_; rintro _ w9 ⟨pu, cu, rfl, o9, y9⟩; have B9 : Below w7.heap.size w7 w9 := (Below.refl _ w7).drew.trans (y9.below (Nat.le_refl _) (fun i e => by simp [Value.ownBlock] at e)); have ht9 := below_box B9 HT3.out; have f9 : w9.frozen? ⟨tB, 0, none⟩ = false := (by simp [World.frozen?, ht9]); have f9b : w9.frozen? ⟨tB, 1, none⟩ = false := (by simp [World.frozen?, ht9]); have c9 : w9.cell? ⟨tB, 0, none⟩ = some (.slice none 0 0) := (by simp [World.cell?, ht9]); have c9b : w9.cell? ⟨tB, 1, none⟩ = some (.int .i64 0) := (by simp [World.cell?, ht9]); have HT9 := hide ht9; have HO9 := hide o9; have HB9 := hide B9; obtain ⟨⟨⟨⟨⟨o0, o1⟩, o2, o3⟩, o4⟩, t1⟩, ⟨z0, z1⟩, z2⟩ := HSS.out _ B9; clear o9 y9 B9 ht9))
      all_goals
        have hE := heap_setS (heap_setS HT9.out 0 (.slice (some ⟨g6, 0, none⟩) m c6)) 1 (.int .i64 tn)
        have hO9 : Only (· = tB) w9 ((w9.setCell ⟨tB, 0, none⟩ (.slice (some ⟨g6, 0, none⟩) m c6)).setCell ⟨tB, 1, none⟩ (.int .i64 tn)) := (Only.set (F := (· = tB)) w9 tB 0 _ rfl).trans (Only.set (F := (· = tB)) _ tB 1 _ rfl)
        have HE := hide hE
        have HKF := hide (ownsRow_only (ownsRow_later HKY.out HB9.out) hO9 (fun b hb e => by have e' : b = tB := e; have := own_block_base HKY.out hb; omega))
        have hzs := HBZ.out.size
        have HOF := hide (ownsRow_only HO9.out hO9 (fun b hb e => by have e' : b = tB := e; have := own_block_base HO9.out hb; omega))
        have HBF : Hid (Below W.heap.size W ((w9.setCell ⟨tB, 0, none⟩ (.slice (some ⟨g6, 0, none⟩) m c6)).setCell ⟨tB, 1, none⟩ (.int .i64 tn))) := hide (((HBW.out.trans (HBZ.out.mono HBW.out.size)).trans (HB9.out.mono (Nat.le_trans HBW.out.size hzs))).trans (hO9.below (Nat.le_trans HBW.out.size (Nat.le_trans hzs HB9.out.size)) (fun b e => by have e' : b = tB := e; have := HWO.out; omega)))
        clear hE hO9 HTL
        go_wp2
        refine bodyPost_ret (results_cell_bool rfl _ _ tB 28 _ _ _ rfl HE.out Try.underlying28 rfl (by kernel_rfl)) rfl ?_
        exact ⟨i, true, (some ⟨g6, 0, none⟩), c6, m, pu, cu, N, HFD.out, rfl, by rw [HRES.out]; exact HKL.out, by rw [HOUT.out, HPS.out]; exact HN.out, by rw [HRES.out]; exact ownsRow_base HKF.out (by have := HWO.out; omega), by rw [HOUT.out, HPS.out]; exact ownsRow_base HOF.out (by have := HWO.out; omega), HBF.out⟩
end Go.Proofs.Ytkibiappjegogaa
