/-
  GraphBytes: the bytes of any graph, what any bytes say, which graphs are the same, and clones, of the program are the document's. No condition.
-/
import Derived.Test.YtdngjpbefcbodaaGas
import Derived.Test.YtdngjpbefcbodaaGpr
import Derived.Test.YtdngjpbefcbodaaGbr
import Derived.Test.YtdngjpbefcbodaaGrs
import Derived.Test.YtdngjpbefcbodaaGlv
import Derived.Deep.RegionHeld3
namespace Go.Proofs.Ytdngjpbefcbodaa.graphBytes
open Go.ChangeShapes Go.WideShapes Go.ChangeAt Go.RowKit

theorem weight_len {os : List GO} : os.length ≤ weightG os ∧ ∀ o ∈ os, o.ins.length ≤ weightG os := by
  unfold weightG
  induction os with
  | nil => simp
  | cons o os ih =>
    obtain ⟨h1, h2⟩ := ih
    simp only [List.map_cons, List.sum_cons, List.length_cons, GO.wt]
    refine ⟨by omega, fun x hx => ?_⟩
    rcases List.mem_cons.1 hx with rfl | hx
    · omega
    · have := h2 x hx; omega
theorem bytesG_u8 {parts : Int} {os : List GO} {bs : List Int} {rc : Int} (h : bytesG parts os = (bs, rc)) : U8 bs := by
  unfold bytesG at h
  split at h
  · simp only [Prod.mk.injEq] at h
    obtain ⟨rfl, _⟩ := h
    exact forms_bd _
  · simp only [Prod.mk.injEq] at h
    obtain ⟨rfl, _⟩ := h
    intro x hx
    simp at hx

set_option maxRecDepth 100000 in
set_option maxHeartbeats 16000000 in
theorem walk {W : World} {parts parts2 : Int} {p p2 : Option Addr} {cap cap2 : Nat} {os os2 : List OV} {vb : Value} {b : List Int} (hp : I6 parts) (ho : GRow W p cap os) (hf : ∀ o ∈ os, o.o.fine) (hw : os.length * 56 ≤ 140737488351232) (hwi : ∀ x ∈ os, x.o.ins.length * 16 ≤ 140737488351232) (_ : I6 parts2) (ho2 : GRow W p2 cap2 os2) (_ : ∀ o ∈ os2, o.o.fine) (_ : os2.length * 56 ≤ 140737488351232) (_ : ∀ x ∈ os2, x.o.ins.length * 16 ≤ 140737488351232) (hb : Row .u8 W vb b) (hu : U8 b) (hs : b.length ≤ 140737488351232) :
    Calls Try.prog 3 #[.agg #[.int .i64 parts, .slice p os.length cap], .agg #[.int .i64 parts2, .slice p2 os2.length cap2], vb] W fun e w' => e = .returned (.bool true) ∧ Below W.heap.size W w' := by
  obtain ⟨n, hn⟩ : ∃ n, os.length = n := ⟨_, rfl⟩
  obtain ⟨n2, hn2⟩ : ∃ n, os2.length = n := ⟨_, rfl⟩
  obtain ⟨bs, rc, hbs⟩ : ∃ bs rc, bytesG parts (os.map OV.o) = (bs, rc) := ⟨_, _, rfl⟩
  obtain ⟨rp, ros, ec, hpg⟩ : ∃ a c d, parseG b = (a, c, d) := ⟨_, _, _, rfl⟩
  obtain ⟨rs, hrs⟩ : ∃ r, decide (parts = parts2 ∧ os.map OV.o = os2.map OV.o) = r := ⟨_, rfl⟩
  rw [hn, hn2]
  have hcl1 : n * 56 ≤ 140737488355328 := by rw [hn] at hw; omega
  have hcl2 : ∀ x ∈ os, x.o.ins.length * 16 ≤ 140737488355328 := fun x hx => by have := hwi x hx; omega
  obtain ⟨V, hV⟩ : ∃ V, V = (W.alloc (.cells #[.int .i64 parts, .slice p n cap] 24 (0, 0))).alloc (.cells #[.int .i64 parts2, .slice p2 n2 cap2] 24 (0, 0)) := ⟨_, rfl⟩
  have v1 : (W.alloc (.cells #[.int .i64 parts, .slice p n cap] 24 (0, 0))).heap[W.heap.size]? = some (.cells #[.int .i64 parts, .slice p n cap] 24 (0, 0)) := heap_alloc_new W _
  have hb1 : Below W.heap.size W V := by rw [hV]; exact (alloc_below _ _).trans ((alloc_below _ _).mono (alloc_below _ _).size)
  have u1 : V.heap[W.heap.size]? = some (.cells #[.int .i64 parts, .slice p n cap] 24 (0, 0)) := by rw [hV]; exact below_box (alloc_below _ _) v1
  have u2 : V.heap[W.heap.size + 1]? = some (.cells #[.int .i64 parts2, .slice p2 n2 cap2] 24 (0, 0)) := by
    have e : W.heap.size + 1 = (W.alloc (.cells #[.int .i64 parts, .slice p n cap] 24 (0, 0))).heap.size := by simp
    rw [hV, e]
    exact heap_alloc_new _ _
  obtain ⟨A0, hA0⟩ : ∃ A0, W.heap.size = A0 := ⟨_, rfl⟩
  rw [hA0] at u1 u2
  have z0 : V.cell? ⟨A0, 0, none⟩ = some (.int .i64 parts) := by simp [World.cell?, u1]
  have z1 : V.cell? ⟨A0, 1, none⟩ = some (.slice p n cap) := by simp [World.cell?, u1]
  have z2 : V.cell? ⟨A0 + 1, 0, none⟩ = some (.int .i64 parts2) := by simp [World.cell?, u2]
  have z3 : V.cell? ⟨A0 + 1, 1, none⟩ = some (.slice p2 n2 cap2) := by simp [World.cell?, u2]
  have HVB := hide hb1
  have HG := hide (ho.below hb1)
  have HG2 := hide (ho2.below hb1)
  have HR := hide (hb.below hb1)
  have HN := hide hn
  have HN2 := hide hn2
  have HF := hide hf
  have HBS := hide hbs
  have HPG := hide hpg
  have HRS := hide hrs
  have HU := hide hu
  have HCL1 := hide hcl1
  have HCL2 := hide hcl2
  obtain ⟨pb, cb, rfl, j1, j2, _, _⟩ := id hb
  clear ho ho2 hb hb1 v1 u1 u2 hn hn2 hf hbs hpg hrs hu hw hwi hcl1 hcl2
  go_enter Try.func3, Try.ntmps3
  go_wp2_with fail
  rw [← hV]
  try rw [hA0]
  clear hV hA0
  refine live_any.mono ?_
  rintro _ w1 ⟨rfl, b1⟩
  have a0 := cell_later b1 z0
  have a1 := cell_later b1 z1
  have HB1 := hide b1
  have HC := hide (bytes_any (parts := parts) hp (HG.out.below b1) HN.out HF.out HBS.out)
  clear b1
  go_wp2_with fail
  refine HC.out.mono ?_
  rintro _ w2 ⟨px, cx, NX, rfl, hNX, OX, b2⟩
  have HB2 := hide (HB1.out.trans (b2.mono HB1.out.size))
  have HOX := hide (own_row OX)
  have c0 := cell_later b2 a0
  have c1 := cell_later b2 a1
  have HC := hide (rbytes_any (parts := parts) hp (HG.out.below HB2.out) HN.out HF.out HBS.out)
  clear b2 OX a0 a1 HC hNX HB1
  have HC := hide (rbytes_any (parts := parts) hp (HG.out.below HB2.out) HN.out HF.out HBS.out)
  go_wp2_with fail
  refine HC.out.mono ?_
  rintro _ w3 ⟨py, cy, NY, rfl, RY, b3⟩
  have HB3 := hide (HB2.out.trans (b3.mono HB2.out.size))
  have HOX3 := hide (HOX.out.below b3)
  have HOY := hide RY
  have HC := hide (parse_any (HR.out.below HB3.out) HU.out (by omega) HPG.out)
  clear b3 RY c0 c1 HOX HB2
  go_wp2_with fail
  refine HC.out.mono ?_
  rintro _ w4 ⟨pP, cP, xP, NP, rfl, hNP, hxP, GP, b4⟩
  have b5 := alloc_below w4 (.cells #[.int .i64 rp, .slice pP NP cP] 24 (0, 0))
  have v5 : (w4.alloc (.cells #[.int .i64 rp, .slice pP NP cP] 24 (0, 0))).heap[w4.heap.size]? = some (.cells #[.int .i64 rp, .slice pP NP cP] 24 (0, 0)) := heap_alloc_new w4 _
  obtain ⟨w5, hw5⟩ : ∃ w5, w5 = w4.alloc (.cells #[.int .i64 rp, .slice pP NP cP] 24 (0, 0)) := ⟨_, rfl⟩
  rw [← hw5] at b5 v5
  have b45 := b4.trans (b5.mono b4.size)
  have HB5 := hide (HB3.out.trans (b45.mono HB3.out.size))
  have HOX5 := hide (HOX3.out.below b45)
  have HOY5 := hide (HOY.out.below b45)
  have HGP5 := hide (GP.row.below b5)
  have HNP := hide hNP
  have HXP := hide hxP
  obtain ⟨PB, hPB⟩ : ∃ PB, w4.heap.size = PB := ⟨_, rfl⟩
  rw [hPB] at v5
  have HV5 := hide v5
  have HC := hide (rparse_any (HR.out.below HB5.out) HU.out HPG.out)
  clear b4 b5 b45 v5 GP hNP hxP HC HOX3 HOY HB3
  have HC := hide (rparse_any (HR.out.below HB5.out) HU.out HPG.out)
  go_wp2_with fail
  rw [← hw5]
  try rw [hPB]
  clear hw5 hPB
  refine HC.out.mono ?_
  rintro _ w6 ⟨pQ, cQ, xQ, NQ, rfl, hNQ, hxQ, GQ, b6⟩
  have b7 := alloc_below w6 (.cells #[.int .i64 rp, .slice pQ NQ cQ] 24 (0, 0))
  have v7 : (w6.alloc (.cells #[.int .i64 rp, .slice pQ NQ cQ] 24 (0, 0))).heap[w6.heap.size]? = some (.cells #[.int .i64 rp, .slice pQ NQ cQ] 24 (0, 0)) := heap_alloc_new w6 _
  obtain ⟨w7, hw7⟩ : ∃ w7, w7 = w6.alloc (.cells #[.int .i64 rp, .slice pQ NQ cQ] 24 (0, 0)) := ⟨_, rfl⟩
  rw [← hw7] at b7 v7
  have b67 := b6.trans (b7.mono b6.size)
  have HB7 := hide (HB5.out.trans (b67.mono HB5.out.size))
  have HOX7 := hide (HOX5.out.below b67)
  have HOY7 := hide (HOY5.out.below b67)
  have HGP7 := hide (HGP5.out.below b67)
  have HGQ7 := hide (GQ.row.below b7)
  have HNQ := hide hNQ
  have HXQ := hide hxQ
  have y5 := below_box b67 HV5.out
  obtain ⟨QB, hQB⟩ : ∃ QB, w6.heap.size = QB := ⟨_, rfl⟩
  rw [hQB] at v7
  have e0 := cell_later HB7.out z0
  have e1 := cell_later HB7.out z1
  have e2 := cell_later HB7.out z2
  have e3 := cell_later HB7.out z3
  have e4 : w7.cell? ⟨PB, 0, none⟩ = some (.int .i64 rp) := by simp [World.cell?, y5]
  have e5 : w7.cell? ⟨PB, 1, none⟩ = some (.slice pP NP cP) := by simp [World.cell?, y5]
  have e6 : w7.cell? ⟨QB, 0, none⟩ = some (.int .i64 rp) := by simp [World.cell?, v7]
  have e7 : w7.cell? ⟨QB, 1, none⟩ = some (.slice pQ NQ cQ) := by simp [World.cell?, v7]
  have HSS : Hid (∀ w', Below w7.heap.size w7 w' → w'.cell? ⟨A0, 0, none⟩ = some (.int .i64 parts) ∧ w'.cell? ⟨A0, 1, none⟩ = some (.slice p n cap) ∧ w'.cell? ⟨A0 + 1, 0, none⟩ = some (.int .i64 parts2) ∧ w'.cell? ⟨A0 + 1, 1, none⟩ = some (.slice p2 n2 cap2) ∧ w'.cell? ⟨PB, 0, none⟩ = some (.int .i64 rp) ∧ w'.cell? ⟨PB, 1, none⟩ = some (.slice pP NP cP) ∧ w'.cell? ⟨QB, 0, none⟩ = some (.int .i64 rp) ∧ w'.cell? ⟨QB, 1, none⟩ = some (.slice pQ NQ cQ)) := hide (fun w' h => ⟨cell_later h e0, cell_later h e1, cell_later h e2, cell_later h e3, cell_later h e4, cell_later h e5, cell_later h e6, cell_later h e7⟩)
  have hpq : decide (rp = rp ∧ xP.map OV.o = xQ.map OV.o) = true := decide_eq_true ⟨rfl, by rw [HXP.out, HXQ.out]⟩
  have hgg : decide (parts = parts ∧ os.map OV.o = os.map OV.o) = true := decide_eq_true ⟨rfl, rfl⟩
  have HG7 := hide (HG.out.below HB7.out)
  have HG27 := hide (HG2.out.below HB7.out)
  have HE := hide (equal_any (HOX7.out.below (Below.refl _ w7).drew) (HOY7.out.below (Below.refl _ w7).drew) (bytesG_u8 HBS.out) (bytesG_u8 HBS.out))
  rw [decide_eq_true (rfl : bs = bs)] at HE
  have HS1 := hide (rsame_any (HGP7.out.below (Below.refl _ w7).drew) (HGQ7.out.below (Below.refl _ w7).drew) HNP.out HNQ.out hpq)
  have HS2 := hide (fun (w : World) (h : Below w7.heap.size w7 w) => gsame_any (HG7.out.below h) (HG27.out.below h) HN.out HN2.out HRS.out)
  have HS3 := hide (fun (w : World) (h : Below w7.heap.size w7 w) => rsame_any (HG7.out.below h) (HG27.out.below h) HN.out HN2.out HRS.out)
  have HS4 := hide (fun (w : World) (h : Below w7.heap.size w7 w) => gsame_any (HG7.out.below h) (HG7.out.below h) HN.out HN.out hgg)
  have HS5 := hide (fun (w : World) (h : Below w7.heap.size w7 w) => gclone_any (parts := parts) (HG7.out.below h) HN.out HCL1.out HCL2.out)
  have B0 : Below w7.heap.size w7 w7.drew := (Below.refl _ w7).drew
  have HFIN := hide (fun (w : World) (h : Below w7.heap.size w7 w) => HVB.out.trans ((HB7.out.trans (h.mono HB7.out.size)).mono HVB.out.size))
  clear b6 b7 b67 v7 y5 GQ hNQ hxQ HC HOX5 HOY5 HGP5 HB5 HV5 hpq hgg z0 z1 z2 z3 e0 e1 e2 e3 e4 e5 e6 e7
  go_upto_region 7 with fail
  rw [← hw7]
  try rw [hQB]
  clear hw7 hQB
  obtain ⟨k0, k1, k2, k3, k4, k5, k6, k7⟩ := HSS.out w7 (Below.refl _ w7)
  go_region_held3 (fun w' => w'.cell? ⟨A0, 0, none⟩ = some (.int .i64 parts) ∧ w'.cell? ⟨A0, 1, none⟩ = some (.slice p n cap) ∧ w'.cell? ⟨A0 + 1, 0, none⟩ = some (.int .i64 parts2) ∧ w'.cell? ⟨A0 + 1, 1, none⟩ = some (.slice p2 n2 cap2) ∧ w'.cell? ⟨PB, 0, none⟩ = some (.int .i64 rp) ∧ w'.cell? ⟨PB, 1, none⟩ = some (.slice pP NP cP) ∧ w'.cell? ⟨QB, 0, none⟩ = some (.int .i64 rp) ∧ w'.cell? ⟨QB, 1, none⟩ = some (.slice pQ NQ cQ)) (go_keep)
    (first
      | (go_at_call 11; refine (rsame_any HGC.out.row (HG7.out.below D5) (by have h9 := congrArg List.length HXC.out; rw [List.length_map, List.length_map, HN.out] at h9; exact h9) HN.out (rb := true) (decide_eq_true ⟨rfl, HXC.out⟩)).mono ?_; rintro _ x6 ⟨rfl, d6⟩; have D6 := D5.trans (d6.mono D5.size); obtain ⟨i0, i1, i2, i3, i4, i5, i6, i7⟩ := HSS.out _ D6)
      | (go_at_call 13; refine (HS5.out _ D4).mono ?_; rintro _ x5 ⟨pC, cC, xC, rfl, hxC, GC, d5⟩; have D5 := D4.trans (d5.mono D4.size); obtain ⟨i0, i1, i2, i3, i4, i5, i6, i7⟩ := HSS.out _ D5; have HGC := hide GC; have HXC := hide hxC; clear GC hxC)
      | (go_at_call 12; refine (HS4.out _ D3).mono ?_; rintro _ x4 ⟨rfl, d4⟩; have D4 := D3.trans (d4.mono D3.size); obtain ⟨i0, i1, i2, i3, i4, i5, i6, i7⟩ := HSS.out _ D4)
      | (go_at_call 11; refine (HS3.out _ D2).mono ?_; rintro _ x3 ⟨rfl, d3⟩; have D3 := D2.trans (d3.mono D2.size); obtain ⟨i0, i1, i2, i3, i4, i5, i6, i7⟩ := HSS.out _ D3)
      | (go_at_call 12; refine (HS2.out _ D1).mono ?_; rintro _ x2 ⟨rfl, d2⟩; have D2 := D1.trans (d2.mono D1.size); obtain ⟨i0, i1, i2, i3, i4, i5, i6, i7⟩ := HSS.out _ D2)
      | (go_at_call 11; refine HS1.out.mono ?_; rintro _ x1 ⟨rfl, d1⟩; have D1 := B0.trans (d1.mono B0.size); obtain ⟨i0, i1, i2, i3, i4, i5, i6, i7⟩ := HSS.out _ D1)
      | (go_at_call 10; refine HE.out.mono ?_; rintro _ x0 ⟨rfl, rfl⟩; obtain ⟨i0, i1, i2, i3, i4, i5, i6, i7⟩ := HSS.out _ B0))
  go_wp2
  go_ret
  exact ⟨rfl, HFIN.out _ D6⟩
set_option maxRecDepth 100000 in
theorem contract (H : Type) (enc : TypeId × Value → H) (W : World) (base : Nat) (args : Array Value) (ds gs : List (DataW H)) (before : List MemPlace)
    (hval : ∀ (j : Nat) t v, Try.f3.params[j]? = some t → args[j]? = some v → Value.okWide Try.prog W .any base t v)
    (hW : DataW.Whole enc Try.prog Try.f3.params.toList Rows.graphBytesSpec.vars false W args.toList ds gs before) (hsz0 : (DataW.weightsEach Try.prog (Try.f3.params.toList ++ Rows.graphBytesSpec.plain.varTypes Try.prog) (ds ++ gs)).all (· ≤ reachBytes) = true) :
    Calls Try.prog 3 args W fun e W' => ∃ v, e = .returned v ∧ Rows.graphBytesSpec.post enc Try.prog Try.f3 false true false false W args v W' := by
  have hW' := hW
  obtain ⟨p, q, hA0, hV, rfl, hfz, hnd⟩ := hW
  have hA : DataW.TrodAll enc Try.prog W 0 (fun _ => true) true Try.f3.params.toList args.toList ds p := hA0
  rw [Try.params3] at hA hval hsz0
  obtain ⟨v0, vs0, d0, ds0, p0, q0, hargs, rfl, rfl, h0, r0⟩ := trodAll_cons hA
  obtain ⟨v1, vs1, d1, ds1, p1, q1, rfl, rfl, rfl, h1, r1⟩ := trodAll_cons r0
  obtain ⟨v2, vs2, d2, ds2, p2, q2, rfl, rfl, rfl, h2, r2⟩ := trodAll_cons r1
  obtain ⟨rfl, rfl, rfl⟩ := trodAll_nil r2
  obtain rfl : args = #[v0, v1, v2] := by cases args; simp_all
  obtain ⟨rfl, rfl⟩ := trodVars_none hV
  obtain ⟨cs0, rfl, hcs0⟩ := okWide_struct Try.underlying24 (hval 0 24 v0 rfl rfl)
  rw [Try.cellsGraph] at hcs0
  obtain ⟨cs1, rfl, hcs1⟩ := okWide_struct Try.underlying24 (hval 1 24 v1 rfl rfl)
  rw [Try.cellsGraph] at hcs1
  obtain ⟨a2, len2, cap2, rfl⟩ := okWide_slice Try.underlying25 (hval 2 25 v2 rfl rfl)
  have k0 := h0
  have lt0 : ∀ x ∈ p0, x.block < W.heap.size := by obtain ⟨m, hm⟩ := k0; exact DataW.trod_lt m _ _ _ hm
  obtain ⟨f0, hf0⟩ := h0
  have hcc0 : (Value.agg cs0).cells.toList = cs0.toList := by simp [Value.cells]
  rw [hcc0] at hf0
  obtain ⟨parts0, gp0, gc0, os0, rfl, I0, G0, F0, B0, E0⟩ := arg_graphS hcs0 (sz_each hsz0 (j := 0) rfl rfl) hf0
  have k1 := h1
  have lt1 : ∀ x ∈ p1, x.block < W.heap.size := by obtain ⟨m, hm⟩ := k1; exact DataW.trod_lt m _ _ _ hm
  obtain ⟨f1, hf1⟩ := h1
  have hcc1 : (Value.agg cs1).cells.toList = cs1.toList := by simp [Value.cells]
  rw [hcc1] at hf1
  obtain ⟨parts1, gp1, gc1, os1, rfl, I1, G1, F1, B1, E1⟩ := arg_graphS hcs1 (sz_each hsz0 (j := 1) rfl rfl) hf1
  have k2 := h2
  have lt2 : ∀ x ∈ p2, x.block < W.heap.size := by obtain ⟨m, hm⟩ := k2; exact DataW.trod_lt m _ _ _ hm
  obtain ⟨f2, hf2⟩ := h2
  obtain ⟨l2, e2, R2, wf2, D2⟩ := arg_row Try.underlying25 Try.underlying5 (by kernel_rfl) hf2
  have b2 : len2 * 1 ≤ 140737488351232 := sized_len (bytes := 1) hsz0 (j := 2) rfl rfl Try.underlying25 (by kernel_rfl) D2
  clear hA0
  refine (walk I0 G0 F0 B0 E0 I1 G1 F1 B1 E1 R2 (wf_u8 wf2) (by omega)).mono fun e W' ⟨he, bel⟩ => ?_
  subst he
  exact ⟨_, rfl, _, _, _, [], _, [], hW', trodAll_mk1 (shut_bool Try.underlying4 _), (trodAll_cons_mk (Below.trod Try.laidOut (by kernel_rfl) (of_decide_eq_true (by kernel_rfl)) k0 bel lt0) (trodAll_cons_mk (Below.trod Try.laidOut (by kernel_rfl) (of_decide_eq_true (by kernel_rfl)) k1 bel lt1) (trodAll_cons_mk (Below.trod Try.laidOut (by kernel_rfl) (of_decide_eq_true (by kernel_rfl)) k2 bel lt2) trodAll_mk0))), rfl, bel.frame _, fun h => by cases h⟩

set_option maxRecDepth 100000 in
theorem lifted (os : Os) (started : os.Started) (H : Type) (enc : TypeId × Value → H) :
    ReturnsInHanded {} Try.checked os 3 .any (Rows.graphBytesSpec.pre6 enc Try.prog Try.f3 Rows.graphBytesRow.domain false) (Rows.graphBytesSpec.post enc Try.prog Try.f3 false true false false) := by
  refine returnsInHanded_of_change_sized (C := Try.checked) Try.ownK started (by kernel_rfl) Try.func3
    (ChangeSpec.witness6 (enc := enc) (C := Try.checked) false ⟨#[], #[.agg #[.int .i64 0, .slice none 0 0], .agg #[.int .i64 0, .slice none 0 0], .slice none 0 0], []⟩ 8 (by kernel_rfl) (by kernel_rfl) (by kernel_rfl) (by kernel_rfl)) ?_
  intro W base args ds gs before hval hW _ hsz _
  exact contract H enc W base args ds gs before hval hW hsz

set_option maxRecDepth 100000 in
theorem proved : Rows.GraphBytesSaid :=
  OpenClaim.holds_of_wide 3 Try.f3 rfl rfl rfl rfl rfl rfl rfl ⟨rfl, rfl, rfl, rfl, rfl⟩ rfl rfl rfl rfl rfl (by kernel_rfl) Try.func3 (by kernel_rfl)
    (of_decide_eq_true (by kernel_rfl)) (by unfold Func.isWrapper; first | (rw [if_pos (by decide +kernel)]; kernel_rfl) | (rw [if_neg (by decide +kernel)]; exact ⟨rfl, rfl⟩))
    (fun os started H enc _ => lifted os started H enc)

end Go.Proofs.Ytdngjpbefcbodaa.graphBytes
