/-
  The reference's All: what each operator of a graph without a fault comes to. The conditions: lengths.
-/
import Derived.Test.YtifldnpccgbnkaaGreatRo9
import Derived.Test.YtifldnpccgbnkaaGreatRbg
import Derived.Test.YtifldnpccgbnkaaGreatRft
import Derived.Test.YtifldnpccgbnkaaGreatRgr
import Derived.Test.YtifldnpccgbnkaaGreatRfa
namespace Go.Proofs.YtifldnpccgbnkaaGreat
open Go.RowKit Go.Shelf

def oneR (o : GO) (ins : List (List RC)) : RS := if o.kind = 8 then unionC ins else soloA o ins[0]!
theorem oneR_is {o : GO} (ins : List (List RC)) : oneR o ins = rfC o ins := by
  unfold oneR rfC
  by_cases h8 : o.kind = 8
  · rw [if_pos h8, if_pos h8]
  · rw [if_neg h8, if_neg h8]
    by_cases h9 : o.kind = 9
    · rw [if_pos h9, solo_sink h9]; rfl
    · rw [if_neg h9, soloA_is]
theorem oneR_source {o : GO} (h : o.kind = 1) (l : List RC) : oneR o [l] = ⟨[l], [], 0, []⟩ := by
  unfold oneR
  rw [if_neg (by omega)]
  exact solo_source h l
theorem one_any {o : GO} {W : World} {ip p : Option Addr} {ic cap n : Nat} {xs : List SV} (hk : 1 ≤ o.kind ∧ o.kind ≤ 9) (h7 : o.kind = 7 → 2 ≤ o.arg ∧ o.arg ≤ 4) (ha : I6 o.arg) (hx : LL W p cap xs) (hn : xs.length = n) (hn1 : 0 < n) (hn4 : n ≤ 4) (hlb : ∀ x ∈ xs, x.rs.length ≤ 1048576) (hfi : ∀ x ∈ xs, ∀ r ∈ x.rs, r.fine) :
    Calls Tryz.prog 33 #[.agg #[.int .i64 o.kind, .int .i64 o.part, .int .i64 o.fn, .int .i64 o.arg, .slice ip o.ins.length ic], .slice p n cap] W fun e w' => ∃ x : RV, e = .returned (.tuple #[x.pv, .agg #[x.kv, .int .i64 x.turn, x.bv]]) ∧ x.ok w' W.heap.size ∧ x.plain = oneR o (xs.map SV.rs) ∧ Below W.heap.size W w' := by
  by_cases h8 : o.kind = 8
  · have e : oneR o (xs.map SV.rs) = unionC (xs.map SV.rs) := by unfold oneR; rw [if_pos h8]
    rw [e]
    exact one_union h8 hx hn hn1 hn4 hlb
  · have h0 : 0 < xs.length := by omega
    have e : oneR o (xs.map SV.rs) = soloA o (xs[0]!).rs := by
      unfold oneR
      rw [if_neg h8, getElem!_pos (xs.map SV.rs) 0 (by simpa using h0), List.getElem_map, getElem!_pos xs 0 h0]
    have hm : xs[0]! ∈ xs := by rw [getElem!_pos xs 0 h0]; exact List.getElem_mem _
    rw [e]
    exact one_solo h8 hk h7 ha hx hn hn1 (hlb _ hm) (hfi _ hm)

theorem own_le {W : World} {base k n c : Nat} {e : TypeId} {p : Option Addr} {xs : List Value} (h : W.ownsRow base e k (.slice p n c) n xs) : n ≤ c ∧ c ≤ 9223372036854775807 := by
  obtain ⟨_, _, ef, i1, i2⟩ := own_form h
  simp only [Value.slice.injEq, true_and] at ef
  obtain ⟨rfl, rfl⟩ := ef
  exact ⟨by omega, by omega⟩
/-- What the reference's All has done. -/
structure AR (w : World) (B : Nat) (po : Option Addr) (co : Nat) (pt : Option Addr) (ct k : Nat) (rv : List RV) (dn : List RS) : Prop where
  len : rv.length = k
  outs : w.ownsRow B 25 1 (.slice po k co) k (rv.map RV.pv)
  sts : w.ownsRow B 60 3 (.slice pt k ct) k (rv.flatMap RV.task)
  ok : ∀ x ∈ rv, x.ok w B
  plain : ∀ i, i < k → (rv[i]!).plain = dn[i]!
theorem AR.later {w w' : World} {B : Nat} {po : Option Addr} {co : Nat} {pt : Option Addr} {ct k : Nat} {rv : List RV} {dn : List RS} (h : AR w B po co pt ct k rv dn) (hb : Below w.heap.size w w') : AR w' B po co pt ct k rv dn :=
  ⟨h.len, ownsRow_later h.outs hb, ownsRow_later h.sts hb, fun x hx => (h.ok x hx).later hb, h.plain⟩
theorem AR.base {w : World} {B B' : Nat} {po : Option Addr} {co : Nat} {pt : Option Addr} {ct k : Nat} {rv : List RV} {dn : List RS} (h : AR w B po co pt ct k rv dn) (hb : B' ≤ B) : AR w B' po co pt ct k rv dn :=
  ⟨h.len, ownsRow_base h.outs hb, ownsRow_base h.sts hb, fun x hx => (h.ok x hx).base hb, h.plain⟩
theorem RV.ok.row {x : RV} {w w' : World} {B b2 k n : Nat} {e : TypeId} {v : Value} {xs : List Value} (h : x.ok w B) (hr : w.ownsRow b2 e k v n xs) (h1 : e ≠ 26) (h2 : e ≠ 71) (h3 : e ≠ 105) (ho : Only (fun i => v.ownBlock = some i) w w') : x.ok w' B :=
  ⟨ownsRow_only h.prow ho (fun _ hb e9 => rows_apart hr h.prow h1 hb e9), fun y hy => ownsRow_only (h.pown y hy) ho (fun _ hb e9 => rows_apart hr (h.pown y hy) h2 hb e9), ownsRow_only h.krow ho (fun _ hb e9 => rows_apart hr h.krow h3 hb e9), ownsRow_only h.brow ho (fun _ hb e9 => rows_apart hr h.brow h1 hb e9), fun y hy => ownsRow_only (h.bown y hy) ho (fun _ hb e9 => rows_apart hr (h.bown y hy) h2 hb e9), h.apart⟩
theorem AR.push {w w5 w7 : World} {B : Nat} {po po' : Option Addr} {co co' : Nat} {pt pt' : Option Addr} {ct ct' k : Nat} {rv : List RV} {dn : List RS} {x : RV} (h : AR w B po co pt ct k rv dn) (hx : x.ok w B) (hp : x.plain = dn[k]!) (h5 : Only (fun i => (Value.slice po k co).ownBlock = some i) w w5) (o5 : w5.ownsRow B 25 1 (.slice po' (k + 1) co') (k + 1) (rv.map RV.pv ++ [x.pv])) (h7 : Only (fun i => (Value.slice pt k ct).ownBlock = some i) w5 w7) (o7 : w7.ownsRow B 60 3 (.slice pt' (k + 1) ct') (k + 1) (rv.flatMap RV.task ++ x.task)) :
    AR w7 B po' co' pt' ct' (k + 1) (rv ++ [x]) dn := by
  have s5 : w5.ownsRow B 60 3 (.slice pt k ct) k (rv.flatMap RV.task) := ownsRow_only h.sts h5 (fun _ hb e9 => rows_apart h.outs h.sts (by decide) hb e9)
  have hok : ∀ y : RV, y.ok w B → y.ok w7 B := fun y hy => (hy.row h.outs (by decide) (by decide) (by decide) h5).row s5 (by decide) (by decide) (by decide) h7
  refine ⟨by rw [List.length_append, h.len]; rfl, ?_, ?_, fun y hy => ?_, fun i hi => ?_⟩
  · rw [List.map_append]
    exact ownsRow_only o5 h7 (fun _ hb e9 => rows_apart s5 o5 (by decide) hb e9)
  · rw [List.flatMap_append]
    have e : [x].flatMap RV.task = x.task := by simp
    rw [e]
    exact o7
  · rw [List.mem_append] at hy
    rcases hy with hy | hy
    · exact hok y (h.ok y hy)
    · simp only [List.mem_singleton] at hy
      rw [hy]
      exact hok x hx
  · have hl := h.len
    by_cases e : i < k
    · have h9 := h.plain i e
      rw [getElem!_pos rv i (by omega)] at h9
      rw [getElem!_pos _ i (by rw [List.length_append]; simp; omega), List.getElem_append_left (by omega)]
      exact h9
    · obtain rfl : i = k := by omega
      rw [getElem!_pos _ i (by rw [List.length_append]; simp; omega), List.getElem_append_right (by omega)]
      simpa only [hl, Nat.sub_self, List.getElem_cons_zero] using hp
theorem Tryz.infoLists : (Tryz.prog.info? 25).map (fun i => (i.zero, i.size, i.bytes)) = some (some (.slice none 0 0), 1, 24) := by kernel_rfl
theorem AR.cell {w : World} {B : Nat} {po : Option Addr} {co : Nat} {pt : Option Addr} {ct k : Nat} {rv : List RV} {dn : List RS} (h : AR w B po co pt ct k rv dn) {f : Nat} (hf : f < k) : ∃ g, po = some ⟨g, 0, none⟩ ∧ w.cell? ⟨g, f, none⟩ = some (rv[f]!).pv := by
  obtain ⟨g, e, h9⟩ := own_cellR h.outs hf
  refine ⟨g, e, ?_⟩
  rw [h9, List.getD_eq_getElem?_getD, List.getElem?_map, List.getElem?_eq_getElem (by rw [h.len]; exact hf), getElem!_pos rv f (by rw [h.len]; exact hf)]
  rfl
theorem RV.ok.port {x : RV} {w : World} {B j : Nat} (h : x.ok w B) (hj : j < x.ports.length) : ∃ g, x.pp = some ⟨g, 0, none⟩ ∧ w.cell? ⟨g, j, none⟩ = some (.slice (x.ports[j]!).p (x.ports[j]!).rs.length (x.ports[j]!).c) := by
  obtain ⟨g, e, h9⟩ := own_cellR (show w.ownsRow B 26 1 (.slice x.pp x.ports.length x.pc) x.ports.length (x.ports.flatMap SV.cells) from h.prow) hj
  refine ⟨g, e, ?_⟩
  rw [h9, SV.flat, List.getD_eq_getElem?_getD, List.getElem?_map, List.getElem?_eq_getElem hj, getElem!_pos x.ports j hj]
  rfl

set_option maxRecDepth 100000 in
set_option maxHeartbeats 16000000 in
theorem rall8 {W : World} {parts : Int} {p q : Option Addr} {cap qc n L : Nat} {os : List OV} {xs : List SV} {ls : List (List RC)} (g : Good parts (os.map OV.o)) (hLp : (L : Int) = parts) (ho : GRow W p cap os) (hn : os.length = n) (hx : LL W q qc xs) (hxl : xs.map SV.rs = ls) (hL : xs.length = L) (hof : ∀ o ∈ os.map OV.o, o.fine) (hf : ∀ l ∈ ls, ∀ r ∈ l, r.fine) (hT : (ls.map List.length).sum ≤ 1048576) :
    Calls Tryz.prog 20 #[.agg #[.int .i64 parts, .slice p n cap], .slice q L qc] W fun e w' => ∃ po co pt ct rv, e = .returned (.tuple #[.slice po n co, .slice pt n ct]) ∧ AR w' W.heap.size po co pt ct n rv (dnC ls (os.map OV.o)) ∧ Below W.heap.size W w' := by
  obtain ⟨i0, hI0, hz0, hz1, hz2⟩ := info_parts Tryz.infoLists
  obtain ⟨k0, hK0, hy0, hy1, hy2⟩ := info_parts Tryz.infoRecs
  obtain ⟨t0, hT0, hv0, hv1, hv2⟩ := info_parts Tryz.infoTask
  have i1 := ho.le
  have i2 := ho.top
  have i3 := hx.row.le
  have i4 := hx.row.top
  rw [hn] at i1
  rw [hL] at i3
  have hml : (os.map OV.o).length = n := by rw [List.length_map]; exact hn
  have hll : (ls.length : Int) = parts := by rw [← hxl, List.length_map, hL]; exact hLp
  have hfit := fits_dn (m := (os.map OV.o).length) g hll hof hf hT (Nat.le_refl _)
  rw [List.take_length] at hfit
  obtain ⟨dn, hdn⟩ : ∃ dn, dnC ls (os.map OV.o) = dn := ⟨_, rfl⟩
  have hple : ∀ k, k < n → ∀ l ∈ (dn[k]!).ports, l.length ≤ 1048576 := fun k hk l hl2 => by
    rw [← hdn] at hl2
    exact Nat.le_trans (port_le g hll (by rw [hml]; exact hk) l hl2) hT
  have hpre : ∀ x ∈ xs, x.rs.length ≤ 1048576 ∧ ∀ r ∈ x.rs, r.fine := fun x hx9 => by
    have hm : x.rs ∈ ls := by rw [← hxl]; exact List.mem_map_of_mem hx9
    exact ⟨Nat.le_trans (mem_sum ls _ hm) hT, hf _ hm⟩
  rw [hdn] at hfit ⊢
  have hn24 : n ≤ 24 := by rw [← hml]; exact hfit.few
  obtain ⟨V, hV⟩ : ∃ V, V = W.alloc (.cells #[.int .i64 parts, .slice p n cap] 24 (0, 0)) := ⟨_, rfl⟩
  have bV : Below W.heap.size W V := by rw [hV]; exact alloc_below _ _
  obtain ⟨gB, hgB⟩ : ∃ gB, W.heap.size = gB := ⟨_, rfl⟩
  have hgb : V.heap[gB]? = some (.cells #[.int .i64 parts, .slice p n cap] 24 (0, 0)) := by rw [hV, ← hgB]; exact heap_alloc_new W _
  have HGB := hide hgb
  have HA0 : Hid (AR V V.heap.size none 0 none 0 0 [] dn) := hide ⟨rfl, World.ownsRow_nil _ _ _ _, World.ownsRow_nil _ _ _ _, fun x hx => (by cases hx), fun i hi => absurd hi (Nat.not_lt_zero i)⟩
  have HO := hide ho
  have HX := hide hx
  have HN := hide hn
  have HL := hide hL
  have HF := hide hfit
  have HML := hide hml
  have HG := hide g
  have HOF := hide hof
  have HPL := hide hple
  have HPR := hide hpre
  have HBV := hide bV
  have HXL := hide hxl
  clear ho hx hn hL hfit hml hll g hof hple hpre bV hgb hf hT hdn hLp hxl
  go_enter Tryz.func20, Tryz.ntmps20
  go_upto_region 1 with fail
  rw [← hV]
  try rw [hgB]
  clear hV hgB
  go_wp2_with fail
  go_loopw [6, 7, 8] (fun s6 s7 s8 wr => ∃ (k : Nat) (po : Option Addr) (co : Nat) (pt : Option Addr) (ct : Nat) (rv : List RV), k ≤ n ∧ s8 = .int .i64 (k : Int) ∧ s6 = .slice po k co ∧ s7 = .slice pt k ct ∧ Hid (AR wr V.heap.size po co pt ct k rv dn) ∧ Hid (Below V.heap.size V wr)) (fun _ _ s8 _ => n - (intOf s8).toNat)
  case atStart => exact ⟨0, none, 0, none, 0, [], Nat.zero_le _, rfl, rfl, rfl, HA0, hide (Below.refl _ _)⟩
  case round =>
    obtain ⟨k, po, co, pt, ct, rv, hk, rfl, rfl, rfl, HA, HB⟩ := hrel
    rename World => wr
    clear HA0
    have hgw := below_box HB.out HGB.out
    have gb0 : wr.cell? ⟨gB, 0, none⟩ = some (.int .i64 parts) := by simp [World.cell?, hgw]
    have gb1 : wr.cell? ⟨gB, 1, none⟩ = some (.slice p n cap) := by simp [World.cell?, hgw]
    have HBW : Hid (Below W.heap.size W wr) := hide (HBV.out.trans (HB.out.mono HBV.out.size))
    have hco := (own_le HA.out.outs).1
    have hco2 := (own_le HA.out.outs).2
    clear hgw
    by_cases hlt : k < n
    · have hlt2 : k < os.length := by rw [HN.out]; exact hlt
      have hltm : k < (os.map OV.o).length := by rw [HML.out]; exact hlt
      have hrow := HO.out.below HBW.out
      obtain ⟨og, oo, rfl, hc⟩ := hrow.cell k hlt2
      have hxm : os[k]! ∈ os := by rw [getElem!_pos os k hlt2]; exact List.getElem_mem _
      have hxo := hrow.ok _ hxm
      have hgo := getO os hlt2
      have hkd := HG.out.kind hltm
      have hk7 := HG.out.route hltm
      have hfin := HOF.out _ (show (os.map OV.o)[k]! ∈ os.map OV.o by rw [getElem!_pos _ k hltm]; exact List.getElem_mem _)
      have hins := fun h1 => HG.out.ins hltm h1
      have hat := HF.out.at' k hltm
      have hsrc := HF.out.src k hltm
      have hinsf := HF.out.ins k hltm
      obtain ⟨x, hxx⟩ : ∃ x, os[k]! = x := ⟨_, rfl⟩
      rw [hxx] at hc hxo hgo
      obtain ⟨⟨kd, pt9, fn, ar, ins⟩, ip, ic⟩ := x
      have HER : Hid (∀ X, Below W.heap.size W X → ERow X ip ic ins) := hide (fun X hX => by
        have h9 := (HO.out.below hX).ok _ hxm
        rw [hxx] at h9
        exact h9)
      have hic := hxo.le
      have hit := hxo.top
      simp only at hic hit hgo
      rw [hgo] at hkd hk7 hfin hins hat hsrc hinsf
      simp only at hkd hk7 hins hat hsrc hinsf
      have har : I6 ar := hfin.2.2.2.1
      obtain ⟨m, hm⟩ : ∃ m, ins.length = m := ⟨_, rfl⟩
      rw [hm] at hic
      have hm4 : m ≤ 4 := by
        by_cases h1 : kd = 1
        · have := (hsrc h1).2.2
          rw [this] at hm
          simp at hm
          omega
        · have := (hinsf h1).1
          omega
      have hedge : ∀ e ∈ ins, ∃ f j : Nat, e = ⟨(f : Int), (j : Int)⟩ ∧ f < k ∧ j < (dn[f]!).ports.length := by
        by_cases h1 : kd = 1
        · rw [(hsrc h1).2.2]
          intro e he
          cases he
        · exact (hinsf h1).2
      have d0 : wr.cell? ⟨og, oo + k * 5, none⟩ = some (.int .i64 kd) := hc 0 (by omega)
      have d1 : wr.cell? ⟨og, oo + k * 5 + 1, none⟩ = some (.int .i64 pt9) := hc 1 (by omega)
      have d2 : wr.cell? ⟨og, oo + k * 5 + 2, none⟩ = some (.int .i64 fn) := hc 2 (by omega)
      have d3 : wr.cell? ⟨og, oo + k * 5 + 3, none⟩ = some (.int .i64 ar) := hc 3 (by omega)
      have d4 : wr.cell? ⟨og, oo + k * 5 + 4, none⟩ = some (.slice ip m ic) := by rw [← hm]; exact hc 4 (by omega)
      obtain ⟨wb, hwb⟩ : ∃ wb, wb = wr.alloc (.cells #[.int .i64 kd, .int .i64 pt9, .int .i64 fn, .int .i64 ar, .slice ip m ic] 55 (0, 0)) := ⟨_, rfl⟩
      have bb : Below wr.heap.size wr wb := by rw [hwb]; exact alloc_below _ _
      obtain ⟨oB, hoB⟩ : ∃ oB, wr.heap.size = oB := ⟨_, rfl⟩
      have xbox : wb.heap[oB]? = some (.cells #[.int .i64 kd, .int .i64 pt9, .int .i64 fn, .int .i64 ar, .slice ip m ic] 55 (0, 0)) := by rw [hwb, ← hoB]; exact heap_alloc_new _ _
      have HBX := hide xbox
      have HBB := hide bb
      have HAT := hide hat
      have HED := hide hedge
      have HM := hide hm
      have HSRC := hide hsrc
      have HINS := hide hins
      have HK7 := hide hk7
      have HKD := hide hkd
      clear xbox bb hat hedge hm hsrc hins hinsf hk7 hkd hfin hxx hxm hxo hc hrow hltm hlt2 hgo
      go_upto_region 7 with fail
      rw [← hwb]
      try rw [hoB]
      clear hwb hoB d0 d1 d2 d3 d4 gb0 gb1
      go_wp2_with fail
      go_loopw [10, 11] (fun s10 s11 wz => ∃ (j : Nat) (pi : Option Addr) (ci : Nat) (ys : List SV), j ≤ m ∧ s11 = .int .i64 (j : Int) ∧ s10 = .slice pi j ci ∧ Hid (wz.ownsRow wb.heap.size 26 1 (.slice pi j ci) j (ys.flatMap SV.cells)) ∧ Hid (ys.length = j) ∧ Hid (∀ i, i < j → ys[i]! = (rv[(ins[i]!).f.toNat]!).ports[(ins[i]!).p.toNat]!) ∧ Hid (Below wb.heap.size wb wz)) (fun _ s11 _ => m - (intOf s11).toNat)
      case atStart => exact ⟨0, none, 0, [], Nat.zero_le _, rfl, rfl, hide (World.ownsRow_nil _ _ _ _), hide rfl, hide (fun i hi => absurd hi (Nat.not_lt_zero i)), hide (Below.refl _ _)⟩
      case round =>
        obtain ⟨j, pi, ci, ys, hjm, rfl, rfl, HOW, HYL, HYS, HBz⟩ := hrel
        rename World => wz
        have HBr : Hid (Below wr.heap.size wr wz) := hide (HBB.out.trans (HBz.out.mono HBB.out.size))
        have HBWz : Hid (Below W.heap.size W wz) := hide (HBW.out.trans (HBr.out.mono HBW.out.size))
        have HAz := hide (HA.out.later HBr.out)
        have hbx := below_box HBz.out HBX.out
        have b0 : wz.cell? ⟨oB, 0, none⟩ = some (.int .i64 kd) := by simp [World.cell?, hbx]
        have b1 : wz.cell? ⟨oB, 1, none⟩ = some (.int .i64 pt9) := by simp [World.cell?, hbx]
        have b2 : wz.cell? ⟨oB, 2, none⟩ = some (.int .i64 fn) := by simp [World.cell?, hbx]
        have b3 : wz.cell? ⟨oB, 3, none⟩ = some (.int .i64 ar) := by simp [World.cell?, hbx]
        have b4 : wz.cell? ⟨oB, 4, none⟩ = some (.slice ip m ic) := by simp [World.cell?, hbx]
        clear hbx
        by_cases hjl : j < m
        · have hjl2 : j < ins.length := by rw [HM.out]; exact hjl
          obtain ⟨g3, o3, rfl, u0, u1⟩ := (HER.out wz HBWz.out).cell j hjl2
          have hem : ins[j]! ∈ ins := by rw [getElem!_pos ins j hjl2]; exact List.getElem_mem _
          obtain ⟨f, pj, hee, hfk, hpj⟩ := HED.out _ hem
          rw [hee] at u0 u1
          simp only at u0 u1
          obtain ⟨go', rfl, v0⟩ := HAz.out.cell hfk
          have hfm : rv[f]! ∈ rv := by rw [getElem!_pos rv f (by rw [HA.out.len]; exact hfk)]; exact List.getElem_mem _
          have hpx : (rv[f]!).ports.length = (dn[f]!).ports.length := by rw [← HA.out.plain f hfk]; simp [RV.plain]
          obtain ⟨gp', hgp, v1⟩ := (HAz.out.ok _ hfm).port (show pj < (rv[f]!).ports.length by rw [hpx]; exact hpj)
          obtain ⟨fv, hfv⟩ : ∃ fv, rv[f]! = fv := ⟨_, rfl⟩
          obtain ⟨y, hy⟩ : ∃ y, (fv.ports)[pj]! = y := ⟨_, rfl⟩
          have hpc := (LRow.of_own SV.len rfl (HAz.out.ok _ hfm).prow).le
          rw [hfv] at v0 v1 hgp hpx hpc
          rw [hy] at v1
          unfold RV.pv at v0
          rw [hgp] at v0
          obtain ⟨pl, hpl⟩ : ∃ pl, fv.ports.length = pl := ⟨_, rfl⟩
          obtain ⟨yl, hyl⟩ : ∃ yl, y.rs.length = yl := ⟨_, rfl⟩
          rw [hpl] at v0 hpx hpc
          rw [hyl] at v1
          have hpjl : pj < pl := by omega
          have HSG : Hid (Seg (wz.alloc (.cells #[.slice y.p yl y.c] 26 (0, 0))) 1 (.slice (some ⟨wz.heap.size, 0, none⟩) 1 1) 1 [.slice y.p yl y.c]) := hide (Seg.news (heap_alloc_new wz _) (by simp [Value.oneCell']) rfl (Nat.le_refl _) (by decide))
          have HAB := hide (alloc_below wz (.cells #[.slice y.p yl y.c] 26 (0, 0)))
          have HRW := hide (ownsRow_later HOW.out HAB.out)
          have HK1 : Hid (j + 1 ≤ maxLen) := by show _ ≤ _; unfold maxLen; omega
          have HK2 : Hid ((j + 1) * 24 ≤ 140737488355328) := by show _ ≤ _; omega
          have HBS : Hid (wb.heap.size ≤ (wz.alloc (.cells #[.slice y.p yl y.c] 26 (0, 0))).heap.size) := hide (Nat.le_trans HBz.out.size HAB.out.size)
          have HEE := hide hee
          have HFV := hide hfv
          have HYY := hide hy
          have HYLL := hide hyl
          clear hee hem hfv hy hyl hpl hpx hgp hfm hjl2 hpj
          go_upto_region 11 with fail
          go_region_law (refine step_append_cells rfl (.tmp 33) (.tmp 51) 25 rfl wb.heap.size 26 k0 (.slice none 0 0) 1 24 Tryz.underlying25 hK0 hy0 hy1 hy2 rfl (by decide) (.slice pi j ci) j (ys.flatMap SV.cells) (by first | rfl | simp [Act.eval, Act.put]) HRW.out (.slice (some ⟨wz.heap.size, 0, none⟩) 1 1) 1 [.slice y.p yl y.c] (by first | rfl | simp [Act.eval, Act.put]) HSG.out HK1.out HK2.out HBS.out ?_; intro p5 c5 w5 o5 g5)
          all_goals
            have HB5 : Hid (Below wb.heap.size wb w5) := hide ((HBz.out.trans (HAB.out.mono HBz.out.size)).drew.grown g5 HBS.out (fun i hi => own_block_base HRW.out hi))
            have HO5 : Hid (w5.ownsRow wb.heap.size 26 1 (.slice p5 (j + 1) c5) (j + 1) ((ys ++ [y]).flatMap SV.cells)) := hide (by
              rw [List.flatMap_append]
              have e : [y].flatMap SV.cells = [.slice y.p yl y.c] := by rw [← HYLL.out]; rfl
              rw [e]
              exact o5)
            have HL5 : Hid ((ys ++ [y]).length = j + 1) := hide (by rw [List.length_append, HYL.out]; rfl)
            have HY5 : Hid (∀ i, i < j + 1 → (ys ++ [y])[i]! = (rv[(ins[i]!).f.toNat]!).ports[(ins[i]!).p.toNat]!) := hide (fun i hi => by
              have hl := HYL.out
              by_cases e : i < j
              · have h9 := HYS.out i e
                rw [getElem!_pos ys i (by omega)] at h9
                rw [getElem!_pos _ i (by rw [List.length_append]; simp; omega), List.getElem_append_left (by omega)]
                exact h9
              · obtain rfl : i = j := by omega
                rw [HEE.out]
                simp only [Int.toNat_natCast]
                rw [HFV.out, HYY.out, getElem!_pos _ i (by rw [List.length_append]; simp; omega), List.getElem_append_right (by omega)]
                simp [hl])
            clear o5 g5 HRW HSG HK1 HK2 HBS HAB v0 v1 u0 u1 b0 b1 b2 b3 b4
            go_wp2
            first
              | exact ⟨⟨j + 1, p5, c5, _, by omega, by first | rfl | go_num, rfl, HO5, HL5, HY5, HB5⟩, by simp [intOf]; omega⟩
              | exact ⟨⟨j + 1, p5, c5, _, by omega, by first | rfl | go_num, rfl, hide HO5.out.drew, HL5, HY5, hide HB5.out.drew⟩, by simp [intOf]; omega⟩
        · obtain rfl : j = m := by omega
          by_cases hk1 : kd = 1
          · subst hk1
            obtain ⟨s1, s2, s3⟩ := HSRC.out rfl
            obtain ⟨t, rfl⟩ : ∃ t : Nat, pt9 = (t : Int) := ⟨pt9.toNat, by omega⟩
            have st : t < xs.length := by
              rw [← HXL.out, List.length_map] at s2
              simpa using s2
            have stL : t < L := by rw [← HL.out]; exact st
            have hll := HX.out.later HBWz.out
            obtain ⟨g2, o2, rfl, hcx⟩ := hll.at st
            have hym : xs[t]! ∈ xs := by rw [getElem!_pos xs t st]; exact List.getElem_mem _
            have hyk := hll.ok _ hym
            have hyp := HPR.out _ hym
            have hpl9 : dn[k]! = ⟨[(xs[t]!).rs], [], 0, []⟩ := by
              rw [HAT.out]
              unfold resC
              rw [if_pos rfl]
              simp only [Int.toNat_natCast]
              rw [← HXL.out, getElem!_pos (xs.map SV.rs) t (by simpa using st), List.getElem_map, ← getElem!_pos xs t st]
            obtain ⟨y, hy⟩ : ∃ y, xs[t]! = y := ⟨_, rfl⟩
            rw [hy] at hcx hyk hyp hpl9
            obtain ⟨yl, hyl⟩ : ∃ yl, y.rs.length = yl := ⟨_, rfl⟩
            rw [hyl] at hcx
            obtain ⟨wc, hwc⟩ : ∃ wc, wc = wz.alloc (.cells #[.slice y.p yl y.c] 26 (0, 0)) := ⟨_, rfl⟩
            have bc : Below wz.heap.size wz wc := by rw [hwc]; exact alloc_below _ _
            obtain ⟨cB, hcB⟩ : ∃ cB, wz.heap.size = cB := ⟨_, rfl⟩
            have hone : wc.ownsRow wz.heap.size 26 1 (.slice (some ⟨cB, 0, none⟩) 1 1) 1 [.slice y.p yl y.c] := by rw [hwc, ← hcB]; exact own_one (Nat.le_refl _)
            have hLL : LL wc (some ⟨cB, 0, none⟩) 1 [y] := ⟨LRow.of_own SV.len rfl (by rw [show [y].flatMap SV.cells = [.slice y.p yl y.c] by rw [← hyl]; rfl]; exact hone), fun z hz => by
              simp only [List.mem_singleton] at hz
              rw [hz]
              exact RRow.later hyk bc⟩
            have hcall := one_any (o := ⟨1, (t : Int), fn, ar, ins⟩) (ip := ip) (ic := ic) (n := 1) (by simp) (by simp) har hLL rfl (by decide) (by decide) (fun z hz => by simp only [List.mem_singleton] at hz; rw [hz]; exact hyp.1) (fun z hz => by simp only [List.mem_singleton] at hz; rw [hz]; exact hyp.2)
            simp only [HM.out] at hcall
            have HCA := hide hcall
            have HPX : Hid (oneR ⟨1, (t : Int), fn, ar, ins⟩ ([y].map SV.rs) = dn[k]!) := hide (by rw [hpl9]; exact oneR_source rfl _)
            have HBc : Hid (Below wr.heap.size wr wc) := hide (HBr.out.trans (bc.mono HBr.out.size))
            have c0 := cell_later bc b0
            have c1 := cell_later bc b1
            have c2 := cell_later bc b2
            have c3 := cell_later bc b3
            have c4 := cell_later bc b4
            clear hcall hpl9 hLL hone hyk hyp hym hll s1 s2 s3 bc hy hyl
            go_upto_region 14 with fail
            rw [← hwc]
            try rw [hcB]
            clear hwc hcB hcx b0 b1 b2 b3 b4
            go_wp2_with fail
            refine HCA.out.mono ?_
            rintro _ w3 ⟨x, rfl, hxok, hxp, hB3⟩
            rw [HPX.out] at hxp
            have hB13 : Below wr.heap.size wr w3 := HBc.out.trans (hB3.mono HBc.out.size)
            have hx3 : x.ok w3 V.heap.size := hxok.base (Nat.le_trans HB.out.size HBc.out.size)
            have hA3 := HA.out.later hB13
            obtain ⟨pl, hpl⟩ : ∃ pl, x.ports.length = pl := ⟨_, rfl⟩
            obtain ⟨bl, hbl⟩ : ∃ bl, x.bufs.length = bl := ⟨_, rfl⟩
            have hpv : x.pv = .slice x.pp pl x.pc := by rw [← hpl]; rfl
            have htk : x.task = [.slice x.kp x.kn x.kc, .int .i64 x.turn, .slice x.bp bl x.bc] := by rw [← hbl]; rfl
            obtain ⟨w4, hw4⟩ : ∃ w4, w4 = w3.alloc (.cells #[.slice x.kp x.kn x.kc, .int .i64 x.turn, .slice x.bp bl x.bc] 60 (0, 0)) := ⟨_, rfl⟩
            have b4' : Below w3.heap.size w3 w4 := by rw [hw4]; exact alloc_below _ _
            obtain ⟨tB, htB⟩ : ∃ tB, w3.heap.size = tB := ⟨_, rfl⟩
            have hbox4 : w4.heap[tB]? = some (.cells #[.slice x.kp x.kn x.kc, .int .i64 x.turn, .slice x.bp bl x.bc] 60 (0, 0)) := by rw [hw4, ← htB]; exact heap_alloc_new w3 _
            have HA4 := hide (hA3.later b4')
            have HX4 := hide (hx3.later b4')
            have HB14 : Hid (Below wr.heap.size wr w4) := hide (hB13.trans (b4'.mono hB13.size))
            have HBX4 := hide hbox4
            have HTS : Hid (V.heap.size ≤ tB) := hide (by rw [← htB]; exact Nat.le_trans HB.out.size hB13.size)
            have ab4 := alloc_below w4 (.cells #[.slice x.pp pl x.pc] 25 (0, 0))
            have HSG4 : Hid (Seg (w4.alloc (.cells #[.slice x.pp pl x.pc] 25 (0, 0))) 1 (.slice (some ⟨w4.heap.size, 0, none⟩) 1 1) 1 [.slice x.pp pl x.pc]) := hide (Seg.news (heap_alloc_new w4 _) (by simp [Value.oneCell']) rfl (Nat.le_refl _) (by decide))
            have HO4 := hide (ownsRow_later HA4.out.outs ab4)
            have HK1 : Hid (k + 1 ≤ maxLen) := by show _ ≤ _; unfold maxLen; omega
            have HK2 : Hid ((k + 1) * 24 ≤ 140737488355328) := by show _ ≤ _; omega
            have HK3 : Hid ((k + 1) * 56 ≤ 140737488355328) := by show _ ≤ _; omega
            have HBS4 : Hid (V.heap.size ≤ (w4.alloc (.cells #[.slice x.pp pl x.pc] 25 (0, 0))).heap.size) := hide (Nat.le_trans HB.out.size (Nat.le_trans HB14.out.size ab4.size))
            have HAB4 := hide ab4
            have HPV := hide hpv
            have HTK := hide htk
            have HXP := hide hxp
            unfold RV.pv RV.kv RV.bv
            rw [hpl, hbl]
            clear hpl hbl hpv htk b4' hbox4 ab4 hx3 hA3 hB13 hxok hB3 hxp HCA HBz
            go_upto_region 15 with fail
            rw [← hw4]
            try rw [htB]
            clear hw4 htB
            go_wp2_with (at_builtin; refine append_cells _ rfl (.tmp 68) (.tmp 70) 65 rfl V.heap.size 25 i0 (.slice none 0 0) 1 24 Tryz.underlying65 hI0 hz0 hz1 hz2 rfl (by decide) (.slice po k co) k _ rfl HO4.out (.slice (some ⟨w4.heap.size, 0, none⟩) 1 1) 1 _ rfl HSG4.out HK1.out HK2.out HBS4.out ?_)
            intro p5 c5 w5 o5 g5
            have ho5 := (Only.alloc (fun i => (Value.slice po k co).ownBlock = some i) w4 _).trans (Only.of_grown (F := fun i => (Value.slice po k co).ownBlock = some i) g5 (fun k e => e))
            have hbx5 := ho5.obj HBX4.out (fun e9 => own_not_box HA4.out.outs HBX4.out (by decide) e9)
            have hs5 : w5.ownsRow V.heap.size 60 3 (.slice pt k ct) k (rv.flatMap RV.task) := ownsRow_only HA4.out.sts ho5 (fun _ hb e9 => rows_apart HA4.out.outs HA4.out.sts (by decide) hb e9)
            have n0 : w5.cell? ⟨tB, 0, none⟩ = some (.slice x.kp x.kn x.kc) := by simp [World.cell?, hbx5]
            have n1 : w5.cell? ⟨tB, 1, none⟩ = some (.int .i64 x.turn) := by simp [World.cell?, hbx5]
            have n2 : w5.cell? ⟨tB, 2, none⟩ = some (.slice x.bp bl x.bc) := by simp [World.cell?, hbx5]
            have ab5 := alloc_below w5 (.cells #[.slice x.kp x.kn x.kc, .int .i64 x.turn, .slice x.bp bl x.bc] 60 (0, 0))
            have HSG5 : Hid (Seg (w5.alloc (.cells #[.slice x.kp x.kn x.kc, .int .i64 x.turn, .slice x.bp bl x.bc] 60 (0, 0))) 3 (.slice (some ⟨w5.heap.size, 0, none⟩) 1 1) 1 [.slice x.kp x.kn x.kc, .int .i64 x.turn, .slice x.bp bl x.bc]) := hide (Seg.news (heap_alloc_new w5 _) (by simp [Value.oneCell']) rfl (Nat.le_refl _) (by decide))
            have HS5 := hide (ownsRow_later hs5 ab5)
            have HB45 : Hid (Below V.heap.size V w5) := hide ((HB.out.trans (HB14.out.mono HB.out.size)).trans (ho5.below (Nat.le_trans HB.out.size HB14.out.size) (fun i e => own_block_base HA4.out.outs e)))
            have HBS5 : Hid (V.heap.size ≤ (w5.alloc (.cells #[.slice x.kp x.kn x.kc, .int .i64 x.turn, .slice x.bp bl x.bc] 60 (0, 0))).heap.size) := hide (Nat.le_trans HB45.out.size ab5.size)
            have HAB5 := hide ab5
            have HO5' := hide ho5
            have HR5 : Hid (w5.ownsRow V.heap.size 25 1 (.slice p5 (k + 1) c5) (k + 1) (rv.map RV.pv ++ [x.pv])) := hide (by rw [HPV.out]; exact o5)
            clear o5 g5 ho5 hbx5 hs5 ab5 HO4 HSG4 HBS4
            go_wp2_with (at_builtin; refine append_cells _ rfl (.tmp 72) (.tmp 74) 37 rfl V.heap.size 60 t0 (.agg #[.slice none 0 0, .int .i64 0, .slice none 0 0]) 3 56 Tryz.underlying37 hT0 hv0 hv1 hv2 rfl (by decide) (.slice pt k ct) k _ rfl HS5.out (.slice (some ⟨w5.heap.size, 0, none⟩) 1 1) 1 _ rfl HSG5.out HK1.out HK3.out HBS5.out ?_)
            intro p7 c7 w7 o7 g7
            have ho7 := (Only.alloc (fun i => (Value.slice pt k ct).ownBlock = some i) w5 _).trans (Only.of_grown (F := fun i => (Value.slice pt k ct).ownBlock = some i) g7 (fun k e => e))
            have HA7 : Hid (AR w7 V.heap.size p5 c5 p7 c7 (k + 1) (rv ++ [x]) dn) := hide (HA4.out.push HX4.out HXP.out HO5'.out HR5.out ho7 (by rw [HTK.out]; exact o7))
            have HB7 : Hid (Below V.heap.size V w7) := hide ((HB45.out.trans (HAB5.out.mono HB45.out.size)).grown g7 (Nat.le_trans HB45.out.size HAB5.out.size) (fun i hi => own_block_base HS5.out hi))
            clear o7 g7 ho7 HS5 HSG5 HBS5 n0 n1 n2 HR5 HO5'
            go_wp2
            exact ⟨⟨k + 1, p5, c5, p7, c7, _, by omega, by first | rfl | go_num, rfl, rfl, HA7, HB7⟩, by simp [intOf]; omega⟩
          · have hke : (kd == 1) = false := by simpa using hk1
            have hm1 := (HINS.out hk1).1
            have hmm := HM.out
            have hys : ∀ y ∈ ys, y.ok wz ∧ y.rs.length ≤ 1048576 ∧ ∀ r ∈ y.rs, r.fine := fun y hy => by
              obtain ⟨i, hi, rfl⟩ := List.getElem_of_mem hy
              have hij : i < j := by have := HYL.out; omega
              have h9 := HYS.out i hij
              rw [getElem!_pos ys i hi] at h9
              have hem : ins[i]! ∈ ins := by rw [getElem!_pos ins i (by omega)]; exact List.getElem_mem _
              obtain ⟨f, pj, hee, hfk, hpj⟩ := HED.out _ hem
              rw [hee] at h9
              simp only [Int.toNat_natCast] at h9
              have hfm : rv[f]! ∈ rv := by rw [getElem!_pos rv f (by rw [HA.out.len]; exact hfk)]; exact List.getElem_mem _
              have hpx : (rv[f]!).ports.length = (dn[f]!).ports.length := by rw [← HA.out.plain f hfk]; simp [RV.plain]
              have hym : ys[i] ∈ (rv[f]!).ports := by rw [h9, getElem!_pos (rv[f]!).ports pj (by omega)]; exact List.getElem_mem _
              have hym2 : (ys[i]).rs ∈ (dn[f]!).ports := by rw [← HA.out.plain f hfk]; exact List.mem_map_of_mem hym
              exact ⟨((HAz.out.ok _ hfm).pown _ hym).ok, HPL.out f (by omega) _ hym2, (HF.out.size f (by have := HML.out; omega) _ hym2).2⟩
            have hLL : LL wz pi ci ys := ⟨LRow.of_own SV.len HYL.out HOW.out, fun y hy => (hys y hy).1⟩
            have hcall := one_any (o := ⟨kd, pt9, fn, ar, ins⟩) (ip := ip) (ic := ic) (n := j) HKD.out HK7.out har hLL HYL.out (by omega) hm4 (fun y hy => (hys y hy).2.1) (fun y hy => (hys y hy).2.2)
            simp only [HM.out] at hcall
            have HCA := hide hcall
            have HPX : Hid (oneR ⟨kd, pt9, fn, ar, ins⟩ (ys.map SV.rs) = dn[k]!) := hide (by
              rw [oneR_is, HAT.out]
              unfold resC
              rw [if_neg hk1]
              congr 1
              apply List.ext_getElem
              · rw [List.length_map, List.length_map, HYL.out, HM.out]
              · intro i h1 h2
                have hiy : i < ys.length := by simpa using h1
                have hii : i < ins.length := by simpa using h2
                have h9 := HYS.out i (by omega)
                rw [getElem!_pos ys i hiy, getElem!_pos ins i hii] at h9
                rw [List.getElem_map, List.getElem_map, h9]
                have hem : ins[i] ∈ ins := List.getElem_mem _
                obtain ⟨f, pj, hee, hfk, hpj⟩ := HED.out _ hem
                rw [hee]
                simp only [Int.toNat_natCast]
                rw [← HA.out.plain f hfk]
                have hpx : (rv[f]!).ports.length = (dn[f]!).ports.length := by rw [← HA.out.plain f hfk]; simp [RV.plain]
                show _ = ((rv[f]!).ports.map SV.rs)[pj]!
                rw [getElem!_pos ((rv[f]!).ports.map SV.rs) pj (by rw [List.length_map]; omega), List.getElem_map, getElem!_pos (rv[f]!).ports pj (by omega)])
            have HBc := HBr
            clear hcall hLL hys hmm hm1
            go_wp2_with fail
            refine HCA.out.mono ?_
            rintro _ w3 ⟨x, rfl, hxok, hxp, hB3⟩
            rw [HPX.out] at hxp
            have hB13 : Below wr.heap.size wr w3 := HBc.out.trans (hB3.mono HBc.out.size)
            have hx3 : x.ok w3 V.heap.size := hxok.base (Nat.le_trans HB.out.size HBc.out.size)
            have hA3 := HA.out.later hB13
            obtain ⟨pl, hpl⟩ : ∃ pl, x.ports.length = pl := ⟨_, rfl⟩
            obtain ⟨bl, hbl⟩ : ∃ bl, x.bufs.length = bl := ⟨_, rfl⟩
            have hpv : x.pv = .slice x.pp pl x.pc := by rw [← hpl]; rfl
            have htk : x.task = [.slice x.kp x.kn x.kc, .int .i64 x.turn, .slice x.bp bl x.bc] := by rw [← hbl]; rfl
            obtain ⟨w4, hw4⟩ : ∃ w4, w4 = w3.alloc (.cells #[.slice x.kp x.kn x.kc, .int .i64 x.turn, .slice x.bp bl x.bc] 60 (0, 0)) := ⟨_, rfl⟩
            have b4' : Below w3.heap.size w3 w4 := by rw [hw4]; exact alloc_below _ _
            obtain ⟨tB, htB⟩ : ∃ tB, w3.heap.size = tB := ⟨_, rfl⟩
            have hbox4 : w4.heap[tB]? = some (.cells #[.slice x.kp x.kn x.kc, .int .i64 x.turn, .slice x.bp bl x.bc] 60 (0, 0)) := by rw [hw4, ← htB]; exact heap_alloc_new w3 _
            have HA4 := hide (hA3.later b4')
            have HX4 := hide (hx3.later b4')
            have HB14 : Hid (Below wr.heap.size wr w4) := hide (hB13.trans (b4'.mono hB13.size))
            have HBX4 := hide hbox4
            have HTS : Hid (V.heap.size ≤ tB) := hide (by rw [← htB]; exact Nat.le_trans HB.out.size hB13.size)
            have ab4 := alloc_below w4 (.cells #[.slice x.pp pl x.pc] 25 (0, 0))
            have HSG4 : Hid (Seg (w4.alloc (.cells #[.slice x.pp pl x.pc] 25 (0, 0))) 1 (.slice (some ⟨w4.heap.size, 0, none⟩) 1 1) 1 [.slice x.pp pl x.pc]) := hide (Seg.news (heap_alloc_new w4 _) (by simp [Value.oneCell']) rfl (Nat.le_refl _) (by decide))
            have HO4 := hide (ownsRow_later HA4.out.outs ab4)
            have HK1 : Hid (k + 1 ≤ maxLen) := by show _ ≤ _; unfold maxLen; omega
            have HK2 : Hid ((k + 1) * 24 ≤ 140737488355328) := by show _ ≤ _; omega
            have HK3 : Hid ((k + 1) * 56 ≤ 140737488355328) := by show _ ≤ _; omega
            have HBS4 : Hid (V.heap.size ≤ (w4.alloc (.cells #[.slice x.pp pl x.pc] 25 (0, 0))).heap.size) := hide (Nat.le_trans HB.out.size (Nat.le_trans HB14.out.size ab4.size))
            have HAB4 := hide ab4
            have HPV := hide hpv
            have HTK := hide htk
            have HXP := hide hxp
            unfold RV.pv RV.kv RV.bv
            rw [hpl, hbl]
            clear hpl hbl hpv htk b4' hbox4 ab4 hx3 hA3 hB13 hxok hB3 hxp HCA HBz
            go_upto_region 15 with fail
            rw [← hw4]
            try rw [htB]
            clear hw4 htB
            go_wp2_with (at_builtin; refine append_cells _ rfl (.tmp 68) (.tmp 70) 65 rfl V.heap.size 25 i0 (.slice none 0 0) 1 24 Tryz.underlying65 hI0 hz0 hz1 hz2 rfl (by decide) (.slice po k co) k _ rfl HO4.out (.slice (some ⟨w4.heap.size, 0, none⟩) 1 1) 1 _ rfl HSG4.out HK1.out HK2.out HBS4.out ?_)
            intro p5 c5 w5 o5 g5
            have ho5 := (Only.alloc (fun i => (Value.slice po k co).ownBlock = some i) w4 _).trans (Only.of_grown (F := fun i => (Value.slice po k co).ownBlock = some i) g5 (fun k e => e))
            have hbx5 := ho5.obj HBX4.out (fun e9 => own_not_box HA4.out.outs HBX4.out (by decide) e9)
            have hs5 : w5.ownsRow V.heap.size 60 3 (.slice pt k ct) k (rv.flatMap RV.task) := ownsRow_only HA4.out.sts ho5 (fun _ hb e9 => rows_apart HA4.out.outs HA4.out.sts (by decide) hb e9)
            have n0 : w5.cell? ⟨tB, 0, none⟩ = some (.slice x.kp x.kn x.kc) := by simp [World.cell?, hbx5]
            have n1 : w5.cell? ⟨tB, 1, none⟩ = some (.int .i64 x.turn) := by simp [World.cell?, hbx5]
            have n2 : w5.cell? ⟨tB, 2, none⟩ = some (.slice x.bp bl x.bc) := by simp [World.cell?, hbx5]
            have ab5 := alloc_below w5 (.cells #[.slice x.kp x.kn x.kc, .int .i64 x.turn, .slice x.bp bl x.bc] 60 (0, 0))
            have HSG5 : Hid (Seg (w5.alloc (.cells #[.slice x.kp x.kn x.kc, .int .i64 x.turn, .slice x.bp bl x.bc] 60 (0, 0))) 3 (.slice (some ⟨w5.heap.size, 0, none⟩) 1 1) 1 [.slice x.kp x.kn x.kc, .int .i64 x.turn, .slice x.bp bl x.bc]) := hide (Seg.news (heap_alloc_new w5 _) (by simp [Value.oneCell']) rfl (Nat.le_refl _) (by decide))
            have HS5 := hide (ownsRow_later hs5 ab5)
            have HB45 : Hid (Below V.heap.size V w5) := hide ((HB.out.trans (HB14.out.mono HB.out.size)).trans (ho5.below (Nat.le_trans HB.out.size HB14.out.size) (fun i e => own_block_base HA4.out.outs e)))
            have HBS5 : Hid (V.heap.size ≤ (w5.alloc (.cells #[.slice x.kp x.kn x.kc, .int .i64 x.turn, .slice x.bp bl x.bc] 60 (0, 0))).heap.size) := hide (Nat.le_trans HB45.out.size ab5.size)
            have HAB5 := hide ab5
            have HO5' := hide ho5
            have HR5 : Hid (w5.ownsRow V.heap.size 25 1 (.slice p5 (k + 1) c5) (k + 1) (rv.map RV.pv ++ [x.pv])) := hide (by rw [HPV.out]; exact o5)
            clear o5 g5 ho5 hbx5 hs5 ab5 HO4 HSG4 HBS4
            go_wp2_with (at_builtin; refine append_cells _ rfl (.tmp 72) (.tmp 74) 37 rfl V.heap.size 60 t0 (.agg #[.slice none 0 0, .int .i64 0, .slice none 0 0]) 3 56 Tryz.underlying37 hT0 hv0 hv1 hv2 rfl (by decide) (.slice pt k ct) k _ rfl HS5.out (.slice (some ⟨w5.heap.size, 0, none⟩) 1 1) 1 _ rfl HSG5.out HK1.out HK3.out HBS5.out ?_)
            intro p7 c7 w7 o7 g7
            have ho7 := (Only.alloc (fun i => (Value.slice pt k ct).ownBlock = some i) w5 _).trans (Only.of_grown (F := fun i => (Value.slice pt k ct).ownBlock = some i) g7 (fun k e => e))
            have HA7 : Hid (AR w7 V.heap.size p5 c5 p7 c7 (k + 1) (rv ++ [x]) dn) := hide (HA4.out.push HX4.out HXP.out HO5'.out HR5.out ho7 (by rw [HTK.out]; exact o7))
            have HB7 : Hid (Below V.heap.size V w7) := hide ((HB45.out.trans (HAB5.out.mono HB45.out.size)).grown g7 (Nat.le_trans HB45.out.size HAB5.out.size) (fun i hi => own_block_base HS5.out hi))
            clear o7 g7 ho7 HS5 HSG5 HBS5 n0 n1 n2 HR5 HO5'
            go_wp2
            exact ⟨⟨k + 1, p5, c5, p7, c7, _, by omega, by first | rfl | go_num, rfl, rfl, HA7, HB7⟩, by simp [intOf]; omega⟩
    · obtain rfl : k = n := by omega
      have HAF := hide (HA.out.base HBV.out.size)
      go_wp2
      go_ret2
      exact ⟨po, co, pt, ct, rv, rfl, HAF.out, HBW.out⟩
end Go.Proofs.YtifldnpccgbnkaaGreat

/-
  The reference's check, Run, Ports and States, and the program's where they are refused. The conditions: a graph without a fault; lengths.
-/
namespace Go.Proofs.YtifldnpccgbnkaaGreat
open Go.RowKit Go.Shelf

set_option maxRecDepth 100000 in
set_option maxHeartbeats 2000000 in
theorem rchk_any {W : World} {parts : Int} {p q : Option Addr} {cap qc n L : Nat} {os : List OV} (ho : GRow W p cap os) (hn : os.length = n) :
    Calls Tryz.prog 19 #[.agg #[.int .i64 parts, .slice p n cap], .slice q L qc] W fun e w' => e = .returned (.int .i64 (faultC parts (os.map OV.o) L)) ∧ Below W.heap.size W w' := by
  obtain ⟨V, hV⟩ : ∃ V, V = W.alloc (.cells #[.int .i64 parts, .slice p n cap] 24 (0, 0)) := ⟨_, rfl⟩
  have hbV : Below W.heap.size W V := by rw [hV]; exact alloc_below _ _
  have x0 : V.heap[W.heap.size]? = some (.cells #[.int .i64 parts, .slice p n cap] 24 (0, 0)) := by rw [hV]; exact heap_alloc_new _ _
  obtain ⟨gB, hgB⟩ : ∃ gB, W.heap.size = gB := ⟨_, rfl⟩
  rw [hgB] at x0
  have hch := rcheck_any (parts := parts) (ho.below hbV)
  rw [hn] at hch
  obtain ⟨⟨c1, c2⟩, hcc⟩ : ∃ c, checkC parts (os.map OV.o) = c := ⟨_, rfl⟩
  rw [hcc] at hch
  simp only at hch
  have HC := hide hch
  have HBV := hide hbV
  have HX0 := hide x0
  have HF : Hid (faultC parts (os.map OV.o) L = if c2 = 0 then (if (L : Int) = parts then 0 else 1) else c2) := hide (by unfold faultC; rw [hcc])
  clear ho hn hch hbV x0 hcc
  by_cases h2 : c2 = 0
  · subst h2
    by_cases hL : (L : Int) = parts
    · rw [HF.out, if_pos rfl, if_pos hL]
      have q1 : ((L : Int) != parts) = false := by simpa using hL
      go_enter Tryz.func19, Tryz.ntmps19
      go_wp2_with fail
      rw [← hV]
      try rw [hgB]
      clear hV hgB
      refine HC.out.mono ?_
      rintro _ w1 ⟨rfl, hB1⟩
      have y0 := below_box hB1 HX0.out
      have d0 : w1.cell? ⟨gB, 0, none⟩ = some (.int .i64 parts) := by simp [World.cell?, y0]
      have HB := hide (HBV.out.trans (hB1.mono HBV.out.size))
      clear y0 hB1 HC
      go_wp2
      go_ret
      exact ⟨rfl, HB.out⟩
    · rw [HF.out, if_pos rfl, if_neg hL]
      have q1 : ((L : Int) != parts) = true := by simpa using hL
      go_enter Tryz.func19, Tryz.ntmps19
      go_wp2_with fail
      rw [← hV]
      try rw [hgB]
      clear hV hgB
      refine HC.out.mono ?_
      rintro _ w1 ⟨rfl, hB1⟩
      have y0 := below_box hB1 HX0.out
      have d0 : w1.cell? ⟨gB, 0, none⟩ = some (.int .i64 parts) := by simp [World.cell?, y0]
      have HB := hide (HBV.out.trans (hB1.mono HBV.out.size))
      clear y0 hB1 HC
      go_wp2
      go_ret
      exact ⟨rfl, HB.out⟩
  · rw [HF.out, if_neg h2]
    have q1 : (c2 != 0) = true := by simpa using h2
    go_enter Tryz.func19, Tryz.ntmps19
    go_wp2_with fail
    rw [← hV]
    try rw [hgB]
    clear hV hgB
    refine HC.out.mono ?_
    rintro _ w1 ⟨rfl, hB1⟩
    have HB := hide (HBV.out.trans (hB1.mono HBV.out.size))
    clear hB1 HC
    go_wp2
    go_ret
    exact ⟨rfl, HB.out⟩

set_option maxRecDepth 100000 in
set_option maxHeartbeats 2000000 in
theorem rrun_err {W : World} {parts : Int} {p q : Option Addr} {cap qc n L : Nat} {os : List OV} (ho : GRow W p cap os) (hn : os.length = n) {fa : Int} (hfa : faultC parts (os.map OV.o) L = fa) (h0 : fa ≠ 0) :
    Calls Tryz.prog 5 #[.agg #[.int .i64 parts, .slice p n cap], .slice q L qc] W fun e w' => e = .returned (.tuple #[.slice none 0 0, .int .i64 fa]) ∧ Below W.heap.size W w' := by
  obtain ⟨V, hV⟩ : ∃ V, V = W.alloc (.cells #[.int .i64 parts, .slice p n cap] 24 (0, 0)) := ⟨_, rfl⟩
  have hbV : Below W.heap.size W V := by rw [hV]; exact alloc_below _ _
  obtain ⟨gB, hgB⟩ : ∃ gB, W.heap.size = gB := ⟨_, rfl⟩
  have hfl := rchk_any (parts := parts) (q := q) (qc := qc) (L := L) (ho.below hbV) hn
  rw [hfa] at hfl
  have HFL := hide hfl
  have HBV := hide hbV
  have q0 : (fa != 0) = true := by simpa using h0
  clear ho hn hfa hbV hfl
  go_enter Tryz.func5, Tryz.ntmps5
  go_wp2_with fail
  rw [← hV]
  try rw [hgB]
  clear hV hgB
  refine HFL.out.mono ?_
  rintro _ w1 ⟨rfl, hB1⟩
  have HB := hide (HBV.out.trans (hB1.mono HBV.out.size))
  clear hB1 HFL
  go_wp2
  go_ret2
  exact ⟨rfl, HB.out⟩

set_option maxRecDepth 100000 in
set_option maxHeartbeats 2000000 in
theorem rports_err {W : World} {parts : Int} {p q : Option Addr} {cap qc n L : Nat} {os : List OV} {op : Int} (ho : GRow W p cap os) (hn : os.length = n) {fa : Int} (hfa : faultC parts (os.map OV.o) L = fa) (h0 : fa ≠ 0) :
    Calls Tryz.prog 9 #[.agg #[.int .i64 parts, .slice p n cap], .int .i64 op, .slice q L qc] W fun e w' => e = .returned (.tuple #[.slice none 0 0, .int .i64 fa]) ∧ Below W.heap.size W w' := by
  obtain ⟨V, hV⟩ : ∃ V, V = W.alloc (.cells #[.int .i64 parts, .slice p n cap] 24 (0, 0)) := ⟨_, rfl⟩
  have hbV : Below W.heap.size W V := by rw [hV]; exact alloc_below _ _
  obtain ⟨gB, hgB⟩ : ∃ gB, W.heap.size = gB := ⟨_, rfl⟩
  have hfl := rchk_any (parts := parts) (q := q) (qc := qc) (L := L) (ho.below hbV) hn
  rw [hfa] at hfl
  have HFL := hide hfl
  have HBV := hide hbV
  have q0 : (fa != 0) = true := by simpa using h0
  clear ho hn hfa hbV hfl
  go_enter Tryz.func9, Tryz.ntmps9
  go_wp2_with fail
  rw [← hV]
  try rw [hgB]
  clear hV hgB
  refine HFL.out.mono ?_
  rintro _ w1 ⟨rfl, hB1⟩
  have HB := hide (HBV.out.trans (hB1.mono HBV.out.size))
  clear hB1 HFL
  go_wp2
  go_ret2
  exact ⟨rfl, HB.out⟩

set_option maxRecDepth 100000 in
set_option maxHeartbeats 2000000 in
theorem rstates_err {W : World} {parts : Int} {p q : Option Addr} {cap qc n L : Nat} {os : List OV} (ho : GRow W p cap os) (hn : os.length = n) {fa : Int} (hfa : faultC parts (os.map OV.o) L = fa) (h0 : fa ≠ 0) :
    Calls Tryz.prog 12 #[.agg #[.int .i64 parts, .slice p n cap], .slice q L qc] W fun e w' => e = .returned (.tuple #[.slice none 0 0, .int .i64 fa]) ∧ Below W.heap.size W w' := by
  obtain ⟨V, hV⟩ : ∃ V, V = W.alloc (.cells #[.int .i64 parts, .slice p n cap] 24 (0, 0)) := ⟨_, rfl⟩
  have hbV : Below W.heap.size W V := by rw [hV]; exact alloc_below _ _
  obtain ⟨gB, hgB⟩ : ∃ gB, W.heap.size = gB := ⟨_, rfl⟩
  have hfl := rchk_any (parts := parts) (q := q) (qc := qc) (L := L) (ho.below hbV) hn
  rw [hfa] at hfl
  have HFL := hide hfl
  have HBV := hide hbV
  have q0 : (fa != 0) = true := by simpa using h0
  clear ho hn hfa hbV hfl
  go_enter Tryz.func12, Tryz.ntmps12
  go_wp2_with fail
  rw [← hV]
  try rw [hgB]
  clear hV hgB
  refine HFL.out.mono ?_
  rintro _ w1 ⟨rfl, hB1⟩
  have HB := hide (HBV.out.trans (hB1.mono HBV.out.size))
  clear hB1 HFL
  go_wp2
  go_ret2
  exact ⟨rfl, HB.out⟩

set_option maxRecDepth 100000 in
set_option maxHeartbeats 2000000 in
theorem ports_err {W : World} {parts : Int} {p q : Option Addr} {cap qc n L : Nat} {os : List OV} {op : Int} (ho : GRow W p cap os) (hn : os.length = n) {fa : Int} (hfa : faultC parts (os.map OV.o) L = fa) (h0 : fa ≠ 0) :
    Calls Tryz.prog 8 #[.agg #[.int .i64 parts, .slice p n cap], .int .i64 op, .slice q L qc] W fun e w' => e = .returned (.tuple #[.slice none 0 0, .int .i64 fa]) ∧ Below W.heap.size W w' := by
  obtain ⟨V, hV⟩ : ∃ V, V = W.alloc (.cells #[.int .i64 parts, .slice p n cap] 24 (0, 0)) := ⟨_, rfl⟩
  have hbV : Below W.heap.size W V := by rw [hV]; exact alloc_below _ _
  obtain ⟨gB, hgB⟩ : ∃ gB, W.heap.size = gB := ⟨_, rfl⟩
  have hfl := fault_any (parts := parts) (q := q) (qc := qc) (L := L) (ho.below hbV) hn
  rw [hfa] at hfl
  have HFL := hide hfl
  have HBV := hide hbV
  have q0 : (fa != 0) = true := by simpa using h0
  clear ho hn hfa hbV hfl
  go_enter Tryz.func8, Tryz.ntmps8
  go_wp2_with fail
  rw [← hV]
  try rw [hgB]
  clear hV hgB
  refine HFL.out.mono ?_
  rintro _ w1 ⟨rfl, hB1⟩
  have HB := hide (HBV.out.trans (hB1.mono HBV.out.size))
  clear hB1 HFL
  go_wp2
  go_ret2
  exact ⟨rfl, HB.out⟩

set_option maxRecDepth 100000 in
set_option maxHeartbeats 2000000 in
theorem states_err {W : World} {parts : Int} {p q : Option Addr} {cap qc n L : Nat} {os : List OV} (ho : GRow W p cap os) (hn : os.length = n) {fa : Int} (hfa : faultC parts (os.map OV.o) L = fa) (h0 : fa ≠ 0) :
    Calls Tryz.prog 11 #[.agg #[.int .i64 parts, .slice p n cap], .slice q L qc] W fun e w' => e = .returned (.tuple #[.slice none 0 0, .int .i64 fa]) ∧ Below W.heap.size W w' := by
  obtain ⟨V, hV⟩ : ∃ V, V = W.alloc (.cells #[.int .i64 parts, .slice p n cap] 24 (0, 0)) := ⟨_, rfl⟩
  have hbV : Below W.heap.size W V := by rw [hV]; exact alloc_below _ _
  obtain ⟨gB, hgB⟩ : ∃ gB, W.heap.size = gB := ⟨_, rfl⟩
  have hfl := fault_any (parts := parts) (q := q) (qc := qc) (L := L) (ho.below hbV) hn
  rw [hfa] at hfl
  have HFL := hide hfl
  have HBV := hide hbV
  have q0 : (fa != 0) = true := by simpa using h0
  clear ho hn hfa hbV hfl
  go_enter Tryz.func11, Tryz.ntmps11
  go_wp2_with fail
  rw [← hV]
  try rw [hgB]
  clear hV hgB
  refine HFL.out.mono ?_
  rintro _ w1 ⟨rfl, hB1⟩
  have HB := hide (HBV.out.trans (hB1.mono HBV.out.size))
  clear hB1 HFL
  go_wp2
  go_ret2
  exact ⟨rfl, HB.out⟩

set_option maxRecDepth 100000 in
set_option maxHeartbeats 2000000 in
theorem rports_no {W : World} {parts : Int} {p q : Option Addr} {cap qc n L : Nat} {os : List OV} {op : Int} (ho : GRow W p cap os) (hn : os.length = n) (hfa : faultC parts (os.map OV.o) L = 0) (hop : op < 0 ∨ (n : Int) ≤ op) :
    Calls Tryz.prog 9 #[.agg #[.int .i64 parts, .slice p n cap], .int .i64 op, .slice q L qc] W fun e w' => e = .returned (.tuple #[.slice none 0 0, .int .i64 1]) ∧ Below W.heap.size W w' := by
  obtain ⟨V, hV⟩ : ∃ V, V = W.alloc (.cells #[.int .i64 parts, .slice p n cap] 24 (0, 0)) := ⟨_, rfl⟩
  have hbV : Below W.heap.size W V := by rw [hV]; exact alloc_below _ _
  obtain ⟨gB, hgB⟩ : ∃ gB, W.heap.size = gB := ⟨_, rfl⟩
  have x0 : V.heap[gB]? = some (.cells #[.int .i64 parts, .slice p n cap] 24 (0, 0)) := by rw [hV, ← hgB]; exact heap_alloc_new _ _
  have hfl := rchk_any (parts := parts) (q := q) (qc := qc) (L := L) (ho.below hbV) hn
  rw [hfa] at hfl
  have HFL := hide hfl
  have HBV := hide hbV
  have HX0 := hide x0
  have HOP := hide hop
  clear ho hn hfa hbV hfl x0 hop
  go_enter Tryz.func9, Tryz.ntmps9
  go_wp2_with fail
  rw [← hV]
  try rw [hgB]
  clear hV hgB
  refine HFL.out.mono ?_
  rintro _ w1 ⟨rfl, hB1⟩
  have y1 := below_box hB1 HX0.out
  have a1 : w1.cell? ⟨gB, 1, none⟩ = some (.slice p n cap) := by simp [World.cell?, y1]
  have HB := hide (HBV.out.trans (hB1.mono HBV.out.size))
  clear hB1 HFL y1
  by_cases hneg : op < 0
  · have hd1 : decide (op < 0) = true := decide_eq_true hneg
    go_wp2
    go_ret2
    exact ⟨rfl, HB.out⟩
  · have hd1 : decide (op < 0) = false := decide_eq_false hneg
    have hge : (n : Int) ≤ op := by have := HOP.out; omega
    have hd2 : decide (op ≥ (n : Int)) = true := decide_eq_true hge
    go_wp2
    go_ret2
    exact ⟨rfl, HB.out⟩

set_option maxRecDepth 100000 in
set_option maxHeartbeats 2000000 in
theorem ports_no {W : World} {parts : Int} {p q : Option Addr} {cap qc n L : Nat} {os : List OV} {op : Int} (ho : GRow W p cap os) (hn : os.length = n) (hfa : faultC parts (os.map OV.o) L = 0) (hop : op < 0 ∨ (n : Int) ≤ op) :
    Calls Tryz.prog 8 #[.agg #[.int .i64 parts, .slice p n cap], .int .i64 op, .slice q L qc] W fun e w' => e = .returned (.tuple #[.slice none 0 0, .int .i64 1]) ∧ Below W.heap.size W w' := by
  obtain ⟨V, hV⟩ : ∃ V, V = W.alloc (.cells #[.int .i64 parts, .slice p n cap] 24 (0, 0)) := ⟨_, rfl⟩
  have hbV : Below W.heap.size W V := by rw [hV]; exact alloc_below _ _
  obtain ⟨gB, hgB⟩ : ∃ gB, W.heap.size = gB := ⟨_, rfl⟩
  have x0 : V.heap[gB]? = some (.cells #[.int .i64 parts, .slice p n cap] 24 (0, 0)) := by rw [hV, ← hgB]; exact heap_alloc_new _ _
  have hfl := fault_any (parts := parts) (q := q) (qc := qc) (L := L) (ho.below hbV) hn
  rw [hfa] at hfl
  have HFL := hide hfl
  have HBV := hide hbV
  have HX0 := hide x0
  have HOP := hide hop
  clear ho hn hfa hbV hfl x0 hop
  go_enter Tryz.func8, Tryz.ntmps8
  go_wp2_with fail
  rw [← hV]
  try rw [hgB]
  clear hV hgB
  refine HFL.out.mono ?_
  rintro _ w1 ⟨rfl, hB1⟩
  have y1 := below_box hB1 HX0.out
  have a1 : w1.cell? ⟨gB, 1, none⟩ = some (.slice p n cap) := by simp [World.cell?, y1]
  have HB := hide (HBV.out.trans (hB1.mono HBV.out.size))
  clear hB1 HFL y1
  by_cases hneg : op < 0
  · have hd1 : decide (op < 0) = true := decide_eq_true hneg
    go_wp2
    go_ret2
    exact ⟨rfl, HB.out⟩
  · have hd1 : decide (op < 0) = false := decide_eq_false hneg
    have hge : (n : Int) ≤ op := by have := HOP.out; omega
    have hd2 : decide (op ≥ (n : Int)) = true := decide_eq_true hge
    go_wp2
    go_ret2
    exact ⟨rfl, HB.out⟩

set_option maxRecDepth 100000 in
set_option maxHeartbeats 4000000 in
theorem rstates_ok {W : World} {parts : Int} {p q : Option Addr} {cap qc n L : Nat} {os : List OV} {xs : List SV} {ls : List (List RC)} (g : Good parts (os.map OV.o)) (hLp : (L : Int) = parts) (ho : GRow W p cap os) (hn : os.length = n) (hx : LL W q qc xs) (hxl : xs.map SV.rs = ls) (hL : xs.length = L) (hfa : faultC parts (os.map OV.o) L = 0) (hof : ∀ o ∈ os.map OV.o, o.fine) (hf : ∀ l ∈ ls, ∀ r ∈ l, r.fine) (hT : (ls.map List.length).sum ≤ 1048576) :
    Calls Tryz.prog 12 #[.agg #[.int .i64 parts, .slice p n cap], .slice q L qc] W fun e w' => ∃ po co pt ct rv, e = .returned (.tuple #[.slice pt n ct, .int .i64 0]) ∧ AR w' W.heap.size po co pt ct n rv (dnC ls (os.map OV.o)) ∧ Below W.heap.size W w' := by
  have hml : (os.map OV.o).length = n := by rw [List.length_map]; exact hn
  have i1 := ho.le
  have i2 := ho.top
  rw [hn] at i1
  obtain ⟨V, hV⟩ : ∃ V, V = W.alloc (.cells #[.int .i64 parts, .slice p n cap] 24 (0, 0)) := ⟨_, rfl⟩
  have hbV : Below W.heap.size W V := by rw [hV]; exact alloc_below _ _
  obtain ⟨gB, hgB⟩ : ∃ gB, W.heap.size = gB := ⟨_, rfl⟩
  have x0 : V.heap[gB]? = some (.cells #[.int .i64 parts, .slice p n cap] 24 (0, 0)) := by rw [hV, ← hgB]; exact heap_alloc_new _ _
  have hfl := rchk_any (parts := parts) (q := q) (qc := qc) (L := L) (ho.below hbV) hn
  rw [hfa] at hfl
  have HFL := hide hfl
  have HALL : Hid (∀ X, Below W.heap.size W X → Calls Tryz.prog 20 #[.agg #[.int .i64 parts, .slice p n cap], .slice q L qc] X fun e w' => ∃ po co pt ct rv, e = .returned (.tuple #[.slice po n co, .slice pt n ct]) ∧ AR w' X.heap.size po co pt ct n rv (dnC ls (os.map OV.o)) ∧ Below X.heap.size X w') := hide (fun X hX => rall8 g hLp (ho.below hX) hn (hx.later hX) hxl hL hof hf hT)
  have HDL : Hid (∀ k, k < n → ((dnC ls (os.map OV.o))[k]!).ports.length = (portsO (os.map OV.o) k).toNat) := hide (fun k hk => dn_ports (by rw [hml]; exact hk))
  obtain ⟨dn, hdn⟩ : ∃ dn, dnC ls (os.map OV.o) = dn := ⟨_, rfl⟩
  rw [hdn] at HALL HDL ⊢
  have HO := hide ho
  have HBV := hide hbV
  have HX0 := hide x0
  clear ho hn hx hxl hL hfa hof hf hT hbV x0 hfl hdn hLp g hml
  go_enter Tryz.func12, Tryz.ntmps12
  go_wp2_with fail
  rw [← hV]
  try rw [hgB]
  clear hV hgB
  refine HFL.out.mono ?_
  rintro _ w1 ⟨rfl, hB1⟩
  have HB1 := hide (HBV.out.trans (hB1.mono HBV.out.size))
  have HX1 := hide (below_box hB1 HX0.out)
  have HA1 := hide (HALL.out w1 HB1.out)
  have y1 := HX1.out
  have a0 : w1.cell? ⟨gB, 0, none⟩ = some (.int .i64 parts) := by simp [World.cell?, y1]
  have a1 : w1.cell? ⟨gB, 1, none⟩ = some (.slice p n cap) := by simp [World.cell?, y1]
  clear hB1 HFL HALL y1
  go_wp2_with fail
  refine HA1.out.mono ?_
  rintro _ w2 ⟨po, co, pt, ct, rv, rfl, hA, hB2⟩
  have HB2 := hide (HB1.out.trans (hB2.mono HB1.out.size))
  have HX2 := hide (below_box hB2 HX1.out)
  have HA := hide hA
  clear HA1 a0 a1 hA hB2
  have hco := (own_le HA.out.outs).1
  have hco2 := (own_le HA.out.outs).2
  go_wp2
  go_ret2
  exact ⟨po, co, pt, ct, rv, rfl, HA.out.base HB1.out.size, HB2.out⟩

set_option maxRecDepth 100000 in
set_option maxHeartbeats 4000000 in
theorem rports_ok {W : World} {parts : Int} {p q : Option Addr} {cap qc n L k : Nat} {os : List OV} {xs : List SV} {ls : List (List RC)} (g : Good parts (os.map OV.o)) (hLp : (L : Int) = parts) (ho : GRow W p cap os) (hn : os.length = n) (hx : LL W q qc xs) (hxl : xs.map SV.rs = ls) (hL : xs.length = L) (hfa : faultC parts (os.map OV.o) L = 0) (hof : ∀ o ∈ os.map OV.o, o.fine) (hf : ∀ l ∈ ls, ∀ r ∈ l, r.fine) (hT : (ls.map List.length).sum ≤ 1048576) (hk : k < n) :
    Calls Tryz.prog 9 #[.agg #[.int .i64 parts, .slice p n cap], .int .i64 (k : Int), .slice q L qc] W fun e w' => ∃ (M : Nat) (pp : Option Addr) (pc : Nat) (ys : List SV), e = .returned (.tuple #[.slice pp M pc, .int .i64 0]) ∧ ys.length = M ∧ LL w' pp pc ys ∧ ys.map SV.rs = ((dnC ls (os.map OV.o))[k]!).ports ∧ Below W.heap.size W w' := by
  have hd1 : decide ((k : Int) < 0) = false := decide_eq_false (by omega)
  have hd2 : decide ((k : Int) ≥ (n : Int)) = false := decide_eq_false (by omega)
  have hml : (os.map OV.o).length = n := by rw [List.length_map]; exact hn
  have i1 := ho.le
  have i2 := ho.top
  rw [hn] at i1
  obtain ⟨V, hV⟩ : ∃ V, V = W.alloc (.cells #[.int .i64 parts, .slice p n cap] 24 (0, 0)) := ⟨_, rfl⟩
  have hbV : Below W.heap.size W V := by rw [hV]; exact alloc_below _ _
  obtain ⟨gB, hgB⟩ : ∃ gB, W.heap.size = gB := ⟨_, rfl⟩
  have x0 : V.heap[gB]? = some (.cells #[.int .i64 parts, .slice p n cap] 24 (0, 0)) := by rw [hV, ← hgB]; exact heap_alloc_new _ _
  have hfl := rchk_any (parts := parts) (q := q) (qc := qc) (L := L) (ho.below hbV) hn
  rw [hfa] at hfl
  have HFL := hide hfl
  have HALL : Hid (∀ X, Below W.heap.size W X → Calls Tryz.prog 20 #[.agg #[.int .i64 parts, .slice p n cap], .slice q L qc] X fun e w' => ∃ po co pt ct rv, e = .returned (.tuple #[.slice po n co, .slice pt n ct]) ∧ AR w' X.heap.size po co pt ct n rv (dnC ls (os.map OV.o)) ∧ Below X.heap.size X w') := hide (fun X hX => rall8 g hLp (ho.below hX) hn (hx.later hX) hxl hL hof hf hT)
  have HDL : Hid (∀ k, k < n → ((dnC ls (os.map OV.o))[k]!).ports.length = (portsO (os.map OV.o) k).toNat) := hide (fun k hk => dn_ports (by rw [hml]; exact hk))
  obtain ⟨dn, hdn⟩ : ∃ dn, dnC ls (os.map OV.o) = dn := ⟨_, rfl⟩
  rw [hdn] at HALL HDL ⊢
  have HO := hide ho
  have HBV := hide hbV
  have HX0 := hide x0
  clear ho hn hx hxl hL hfa hof hf hT hbV x0 hfl hdn hLp g hml
  go_enter Tryz.func9, Tryz.ntmps9
  go_wp2_with fail
  rw [← hV]
  try rw [hgB]
  clear hV hgB
  refine HFL.out.mono ?_
  rintro _ w1 ⟨rfl, hB1⟩
  have HB1 := hide (HBV.out.trans (hB1.mono HBV.out.size))
  have HX1 := hide (below_box hB1 HX0.out)
  have HA1 := hide (HALL.out w1 HB1.out)
  have y1 := HX1.out
  have a0 : w1.cell? ⟨gB, 0, none⟩ = some (.int .i64 parts) := by simp [World.cell?, y1]
  have a1 : w1.cell? ⟨gB, 1, none⟩ = some (.slice p n cap) := by simp [World.cell?, y1]
  clear hB1 HFL HALL y1
  go_wp2_with fail
  refine HA1.out.mono ?_
  rintro _ w2 ⟨po, co, pt, ct, rv, rfl, hA, hB2⟩
  have HB2 := hide (HB1.out.trans (hB2.mono HB1.out.size))
  have HX2 := hide (below_box hB2 HX1.out)
  have HA := hide hA
  clear HA1 a0 a1 hA hB2
  have hco := (own_le HA.out.outs).1
  have hco2 := (own_le HA.out.outs).2
  obtain ⟨go', rfl, v0⟩ := HA.out.cell hk
  have hfm : rv[k]! ∈ rv := by rw [getElem!_pos rv k (by rw [HA.out.len]; exact hk)]; exact List.getElem_mem _
  have hok := HA.out.ok _ hfm
  have hpl := HA.out.plain k hk
  obtain ⟨fv, hfv⟩ : ∃ fv, rv[k]! = fv := ⟨_, rfl⟩
  rw [hfv] at v0 hok hpl
  unfold RV.pv at v0
  obtain ⟨M, hM⟩ : ∃ M, fv.ports.length = M := ⟨_, rfl⟩
  rw [hM] at v0
  have HOKK := hide hok
  have HPLK := hide hpl
  have HMM := hide hM
  clear hok hpl hM hfv hfm
  go_wp2
  go_ret2
  exact ⟨M, fv.pp, fv.pc, fv.ports, rfl, HMM.out, ⟨LRow.of_own SV.len rfl HOKK.out.prow, fun y hy => (HOKK.out.pown y hy).ok⟩, by rw [← HPLK.out]; rfl, HB2.out⟩

set_option maxRecDepth 100000 in
set_option maxHeartbeats 4000000 in
theorem rrun_ok {W : World} {parts : Int} {p q : Option Addr} {cap qc n L s f j : Nat} {os : List OV} {xs : List SV} {ls : List (List RC)} (g : Good parts (os.map OV.o)) (hLp : (L : Int) = parts) (ho : GRow W p cap os) (hn : os.length = n) (hx : LL W q qc xs) (hxl : xs.map SV.rs = ls) (hL : xs.length = L) (hfa : faultC parts (os.map OV.o) L = 0) (hof : ∀ o ∈ os.map OV.o, o.fine) (hf : ∀ l ∈ ls, ∀ r ∈ l, r.fine) (hT : (ls.map List.length).sum ≤ 1048576) (hs : firstO sinkF (os.map OV.o) = some s) (hsn : s < n) (hin : ((os.map OV.o)[s]!).ins = [⟨(f : Int), (j : Int)⟩]) (hfs : f < s) (hjp : (j : Int) < portsO (os.map OV.o) f) :
    Calls Tryz.prog 5 #[.agg #[.int .i64 parts, .slice p n cap], .slice q L qc] W fun e w' => ∃ (yp : Option Addr) (yc N : Nat), e = .returned (.tuple #[.slice yp N yc, .int .i64 0]) ∧ (((dnC ls (os.map OV.o))[f]!).ports[j]!).length = N ∧ RRow w' yp yc (((dnC ls (os.map OV.o))[f]!).ports[j]!) ∧ Below W.heap.size W w' := by
  have hml : (os.map OV.o).length = n := by rw [List.length_map]; exact hn
  have i1 := ho.le
  have i2 := ho.top
  rw [hn] at i1
  obtain ⟨V, hV⟩ : ∃ V, V = W.alloc (.cells #[.int .i64 parts, .slice p n cap] 24 (0, 0)) := ⟨_, rfl⟩
  have hbV : Below W.heap.size W V := by rw [hV]; exact alloc_below _ _
  obtain ⟨gB, hgB⟩ : ∃ gB, W.heap.size = gB := ⟨_, rfl⟩
  have x0 : V.heap[gB]? = some (.cells #[.int .i64 parts, .slice p n cap] 24 (0, 0)) := by rw [hV, ← hgB]; exact heap_alloc_new _ _
  have hfl := rchk_any (parts := parts) (q := q) (qc := qc) (L := L) (ho.below hbV) hn
  rw [hfa] at hfl
  have HFL := hide hfl
  have HALL : Hid (∀ X, Below W.heap.size W X → Calls Tryz.prog 20 #[.agg #[.int .i64 parts, .slice p n cap], .slice q L qc] X fun e w' => ∃ po co pt ct rv, e = .returned (.tuple #[.slice po n co, .slice pt n ct]) ∧ AR w' X.heap.size po co pt ct n rv (dnC ls (os.map OV.o)) ∧ Below X.heap.size X w') := hide (fun X hX => rall8 g hLp (ho.below hX) hn (hx.later hX) hxl hL hof hf hT)
  have HDL : Hid (∀ k, k < n → ((dnC ls (os.map OV.o))[k]!).ports.length = (portsO (os.map OV.o) k).toNat) := hide (fun k hk => dn_ports (by rw [hml]; exact hk))
  obtain ⟨dn, hdn⟩ : ∃ dn, dnC ls (os.map OV.o) = dn := ⟨_, rfl⟩
  rw [hdn] at HALL HDL ⊢
  have HSK : Hid (∀ X, Below W.heap.size W X → Calls Tryz.prog 21 #[.agg #[.int .i64 parts, .slice p n cap]] X fun e w' => e = .returned (.tuple #[.int .i64 (s : Int), .bool true]) ∧ Below X.heap.size X w') := hide (fun X hX => by
    have h9 := rsink_any (parts := parts) (ho.below hX)
    rw [hs, hn] at h9
    exact h9)
  have hs2 : s < os.length := by omega
  have hos := getO os hs2
  rw [hos] at hin
  have HIN := hide hin
  have HS2 := hide hs2
  clear hs hin hos hs2
  have HO := hide ho
  have HBV := hide hbV
  have HX0 := hide x0
  clear ho hn hx hxl hL hfa hof hf hT hbV x0 hfl hdn hLp g hml
  go_enter Tryz.func5, Tryz.ntmps5
  go_wp2_with fail
  rw [← hV]
  try rw [hgB]
  clear hV hgB
  refine HFL.out.mono ?_
  rintro _ w1 ⟨rfl, hB1⟩
  have HB1 := hide (HBV.out.trans (hB1.mono HBV.out.size))
  have HX1 := hide (below_box hB1 HX0.out)
  have HA1 := hide (HALL.out w1 HB1.out)
  have y1 := HX1.out
  have a0 : w1.cell? ⟨gB, 0, none⟩ = some (.int .i64 parts) := by simp [World.cell?, y1]
  have a1 : w1.cell? ⟨gB, 1, none⟩ = some (.slice p n cap) := by simp [World.cell?, y1]
  clear hB1 HFL HALL y1
  go_wp2_with fail
  refine HA1.out.mono ?_
  rintro _ w2 ⟨po, co, pt, ct, rv, rfl, hA, hB2⟩
  have HB2 := hide (HB1.out.trans (hB2.mono HB1.out.size))
  have HX2 := hide (below_box hB2 HX1.out)
  have HA := hide hA
  clear HA1 a0 a1 hA hB2
  have hco := (own_le HA.out.outs).1
  have hco2 := (own_le HA.out.outs).2
  have y1 := HX2.out
  have a0 : w2.cell? ⟨gB, 0, none⟩ = some (.int .i64 parts) := by simp [World.cell?, y1]
  have a1 : w2.cell? ⟨gB, 1, none⟩ = some (.slice p n cap) := by simp [World.cell?, y1]
  have HS := hide (HSK.out w2 HB2.out)
  clear y1 HSK
  go_wp2_with fail
  refine HS.out.mono ?_
  rintro _ w3 ⟨rfl, hB3⟩
  have HB3 := hide (HB2.out.trans (hB3.mono HB2.out.size))
  have y1 := below_box hB3 HX2.out
  have a2 : w3.cell? ⟨gB, 1, none⟩ = some (.slice p n cap) := by simp [World.cell?, y1]
  have HA3 := hide (HA.out.later hB3)
  have hrow := HO.out.below HB3.out
  obtain ⟨og, oo, rfl, hc⟩ := hrow.cell s HS2.out
  have hxm : os[s]! ∈ os := by rw [getElem!_pos os s HS2.out]; exact List.getElem_mem _
  have hxo := hrow.ok _ hxm
  have hin := HIN.out
  obtain ⟨x, hxx⟩ : ∃ x, os[s]! = x := ⟨_, rfl⟩
  rw [hxx] at hc hxo hin
  obtain ⟨⟨kd, pt9, fn, ar, ins⟩, ip, ic⟩ := x
  simp only at hin
  subst hin
  have d4 : w3.cell? ⟨og, oo + s * 5 + 4, none⟩ = some (.slice ip 1 ic) := hc 4 (by omega)
  have hic : 1 ≤ ic := hxo.le
  have hit := hxo.top
  obtain ⟨g3, o3, e3, u0, u1⟩ := hxo.cell 0 (by simp)
  simp only at e3
  subst e3
  have u0' : w3.cell? ⟨g3, o3, none⟩ = some (.int .i64 (f : Int)) := by simpa using u0
  have u1' : w3.cell? ⟨g3, o3 + 1, none⟩ = some (.int .i64 (j : Int)) := by simpa using u1
  obtain ⟨w4, hw4⟩ : ∃ w4, w4 = w3.alloc (.cells #[.int .i64 (f : Int), .int .i64 (j : Int)] 52 (0, 0)) := ⟨_, rfl⟩
  have b4 : Below w3.heap.size w3 w4 := by rw [hw4]; exact alloc_below _ _
  obtain ⟨eB, heB⟩ : ∃ eB, w3.heap.size = eB := ⟨_, rfl⟩
  have ebox : w4.heap[eB]? = some (.cells #[.int .i64 (f : Int), .int .i64 (j : Int)] 52 (0, 0)) := by rw [hw4, ← heB]; exact heap_alloc_new w3 _
  have e0 : w4.cell? ⟨eB, 0, none⟩ = some (.int .i64 (f : Int)) := by simp [World.cell?, ebox]
  have e1 : w4.cell? ⟨eB, 1, none⟩ = some (.int .i64 (j : Int)) := by simp [World.cell?, ebox]
  have hA4 := HA3.out.later b4
  have hfn : f < n := by omega
  obtain ⟨go', rfl, v0⟩ := hA4.cell hfn
  have hfm : rv[f]! ∈ rv := by rw [getElem!_pos rv f (by rw [HA.out.len]; exact hfn)]; exact List.getElem_mem _
  have hpl := HA.out.plain f hfn
  have hdl := HDL.out f hfn
  have hpx : j < (rv[f]!).ports.length := by
    have : (rv[f]!).ports.length = (dn[f]!).ports.length := by rw [← hpl]; simp [RV.plain]
    rw [this, hdl]
    omega
  obtain ⟨gp', hgp, v1⟩ := (hA4.ok _ hfm).port hpx
  have hpo := ((hA4.ok _ hfm).pown ((rv[f]!).ports[j]!) (by rw [getElem!_pos (rv[f]!).ports j hpx]; exact List.getElem_mem _)).ok
  have hpc := (LRow.of_own SV.len rfl (hA4.ok _ hfm).prow).le
  have hyr : ((rv[f]!).ports[j]!).rs = (dn[f]!).ports[j]! := by
    rw [← hpl]
    show _ = ((rv[f]!).ports.map SV.rs)[j]!
    rw [getElem!_pos ((rv[f]!).ports.map SV.rs) j (by rw [List.length_map]; exact hpx), List.getElem_map, getElem!_pos (rv[f]!).ports j hpx]
  obtain ⟨fv, hfv⟩ : ∃ fv, rv[f]! = fv := ⟨_, rfl⟩
  rw [hfv] at v0 v1 hgp hpx hpo hpc hyr
  obtain ⟨y, hy⟩ : ∃ y, (fv.ports)[j]! = y := ⟨_, rfl⟩
  rw [hy] at v1 hpo hyr
  unfold RV.pv at v0
  rw [hgp] at v0
  obtain ⟨pl, hpl2⟩ : ∃ pl, fv.ports.length = pl := ⟨_, rfl⟩
  obtain ⟨yl, hyl⟩ : ∃ yl, y.rs.length = yl := ⟨_, rfl⟩
  rw [hpl2] at v0 hpx hpc
  rw [hyl] at v1
  have HB4 := hide (HB3.out.trans (b4.mono HB3.out.size))
  have HPO : Hid (RRow w4 y.p y.c y.rs) := hide hpo
  have HYR := hide hyr
  have HYL := hide hyl
  clear hB3 y1 hc hxm hxo hxx hrow u0 u1 b4 ebox hA4 hfm hpl hdl hgp hpo hyr hy hfv hpl2 hyl HS a0 a1
  go_upto_region 7 with fail
  rw [← hw4]
  try rw [heB]
  clear hw4 heB a2 d4 u0' u1'
  go_quiet (fail)
  go_wp2
  go_ret2
  exact ⟨y.p, y.c, yl, rfl, by rw [← HYR.out]; exact HYL.out, by rw [← HYR.out]; exact RRow.later HPO.out (below_drewN (Below.refl _ _) _), below_drewN HB4.out _⟩
end Go.Proofs.YtifldnpccgbnkaaGreat
