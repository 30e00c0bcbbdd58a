/-
  The program's looseOp. The conditions: lengths, and that no fault was found.
-/
import Derived.Test.YtlfipmieaabagaaGreatGlp
import Derived.Test.YtlfipmieaabagaaGreatGpc
namespace Go.Proofs.YtlfipmieaabagaaGreat
open Go.RowKit Go.Shelf
attribute [local go_sem] Oper.semAt_some

def aggC : Value → Array Value
  | .agg a => a
  | _ => #[]
theorem enInputs : ∀ args w, (callFunc 123 args).run Tryz.prog w = .ok (.enter 123 args) w := enters_of Tryz.func123 (by kernel_rfl) rfl
theorem inputs_any {W : World} {p : Option Addr} {n cap : Nat} : Calls Tryz.prog 104 #[.slice p n cap] W fun e w' => e = .returned (.func (.func 123) #[] #[.pointer (some ⟨W.heap.size, 0, none⟩)]) ∧ w' = W.alloc (.cells #[.slice p n cap] 22 (0, 0)) := by
  go_enter Tryz.func104, Tryz.ntmps104
  go_wp2
  go_ret
  exact ⟨rfl, rfl⟩
theorem zero_left : (#[.int .i64 0, .int .i64 0, .int .i64 0, .int .i64 0, .int .i64 0, .int .i64 0, .int .i64 0, .int .i64 0, .int .i64 0, .int .i64 0, .int .i64 0, .int .i64 0, .int .i64 0, .int .i64 0, .int .i64 0, .int .i64 0, .int .i64 0, .int .i64 0, .int .i64 0, .int .i64 0, .int .i64 0, .int .i64 0, .int .i64 0, .int .i64 0] : Array Value) = Array.replicate 24 (.int .i64 0) := by kernel_rfl
theorem LRep.new {W : World} {tb : Nat} (h : W.heap[tb]? = some (.cells #[.int .i64 0, .int .i64 0, .int .i64 0, .int .i64 0, .int .i64 0, .int .i64 0, .int .i64 0, .int .i64 0, .int .i64 0, .int .i64 0, .int .i64 0, .int .i64 0, .int .i64 0, .int .i64 0, .int .i64 0, .int .i64 0, .int .i64 0, .int .i64 0, .int .i64 0, .int .i64 0, .int .i64 0, .int .i64 0, .int .i64 0, .int .i64 0] 203 (0, 0))) (os : List GO) : LRep W tb (startF os 0) := by
  rw [zero_left] at h
  refine ⟨_, h, by simp, fun i hi => ?_⟩
  rw [Array.getElem?_eq_getElem (by simp; omega)]
  simp [startF]
theorem LRep.keeps {X Y : World} {B lb : Nat} {f : Nat → Int} (h : LRep X lb f) (ho : Only (· = lb) X Y) : KeepsFrom B X Y := by
  refine ⟨ho.size, fun k o _ hk hc => ho.obj hk ?_⟩
  intro e
  have e' : k = lb := e
  obtain ⟨cs, h1, _⟩ := h
  rw [e', h1] at hk
  cases hk
  simp [Obj.isCells] at hc

set_option maxRecDepth 100000 in
set_option maxHeartbeats 8000000 in
theorem loose_in (n : Nat) (hn : 4 ≤ n) {W : World} {parts : Int} {p : Option Addr} {cap : Nat} {os : List OV} (ho : GRow W p cap os) (hl : os.length ≤ 24) (hs : (scanS parts (os.map OV.o)).bad = none) {rv : Int} (hrv : (match looseAt (os.map OV.o) with | some n => (n : Int) | none => -1) = rv) {rb : Bool} (hrb : (looseAt (os.map OV.o)).isSome = rb) :
    CallsIn Fence.wide n Tryz.prog 101 #[.slice p os.length cap] W fun e w' => e = .returned (.tuple #[.int .i64 rv, .bool rb]) ∧ Below W.heap.size W w' := by
  have i3 := ho.le
  have i4 := ho.top
  have HO := hide ho
  have HS := hide hs
  have HRV := hide hrv
  have HRB := hide hrb
  clear ho hs hrv hrb
  refine callsIn_of_wp_marks Tryz.func101 rfl trivial ?_ rfl
  simp only [Tryz.ntmps101, List.size_toArray, List.length_cons, List.length_nil, Nat.reduceAdd, Nat.reduceSub, Array.replicate_succ, Array.replicate_zero, List.push_toArray, List.append_toArray, List.nil_append, List.cons_append]
  gi_wp2_with fail
  obtain ⟨gB, hgB⟩ : ∃ gB, W.heap.size = gB := ⟨_, rfl⟩
  obtain ⟨V, hV⟩ : ∃ V, V = W.alloc (.cells #[.int .i64 0, .int .i64 0, .int .i64 0, .int .i64 0, .int .i64 0, .int .i64 0, .int .i64 0, .int .i64 0, .int .i64 0, .int .i64 0, .int .i64 0, .int .i64 0, .int .i64 0, .int .i64 0, .int .i64 0, .int .i64 0, .int .i64 0, .int .i64 0, .int .i64 0, .int .i64 0, .int .i64 0, .int .i64 0, .int .i64 0, .int .i64 0] 203 (0, 0)) := ⟨_, rfl⟩
  rw [← hV]
  have HV2 : Hid (LRep V gB (startF (os.map OV.o) 0)) := by
    refine hide (LRep.new ?_ _)
    rw [hV, ← hgB]
    exact heap_alloc_new _ _
  have HVB : Hid (Below W.heap.size W V) := by rw [hV]; exact hide (alloc_below W _)
  have hVs : V.heap.size = gB + 1 := by rw [hV, ← hgB]; simp
  try rw [hgB]
  clear hV
  have HWX : Hid (∀ w', Only (· = gB) V w' → Below W.heap.size W w') := by
    refine hide (fun w' h => HVB.out.trans (h.below (by omega) (fun i e => by have e' : i = gB := e; omega)))
  gi_loopw [12] (fun i wr => ∃ k : Nat, k ≤ os.length ∧ i = .int .i64 (k : Int) ∧ Hid (LRep wr gB (startF (os.map OV.o) k)) ∧ Hid (Only (· = gB) V wr)) (fun i _ => os.length - (intOf i).toNat)
  case atStart => exact ⟨0, Nat.zero_le _, rfl, HV2, hide (Only.refl _ _)⟩
  case round =>
    obtain ⟨k, hk, rfl, HLR, HOn⟩ := hrel
    by_cases hlt : k < os.length
    · obtain ⟨g, o, rfl, hc⟩ := (HO.out.below (HWX.out _ HOn.out)).cell k hlt
      obtain ⟨x, hx⟩ : ∃ x, os[k]! = x := ⟨_, rfl⟩
      rw [hx] at hc
      have HMO : Hid ((os.map OV.o)[k]! = x.o) := hide (by rw [getO os hlt, hx])
      obtain ⟨⟨kd, pt, fn, ar, ins⟩, ip, ic⟩ := x
      have d0 : wr.cell? ⟨g, o + k * 5, none⟩ = some (.int .i64 kd) := hc 0 (by omega)
      have d1 : wr.cell? ⟨g, o + k * 5 + 1, none⟩ = some (.int .i64 pt) := hc 1 (by omega)
      have d2 : wr.cell? ⟨g, o + k * 5 + 2, none⟩ = some (.int .i64 fn) := hc 2 (by omega)
      have d3 : wr.cell? ⟨g, o + k * 5 + 3, none⟩ = some (.int .i64 ar) := hc 3 (by omega)
      have d4 : wr.cell? ⟨g, o + k * 5 + 4, none⟩ = some (.slice ip ins.length ic) := hc 4 (by omega)
      clear hc hx
      gi_wp2_with fail
      refine ⟨trivial, fun _ => by omega, (callsIn_wide.2 ports_any).mono ?_⟩
      rintro _ w1 ⟨rfl, b1⟩
      have hb1 : Below wr.heap.size wr w1 := (alloc_below wr _).trans (b1.mono (by simp))
      have hl1 := HLR.out.below hb1
      have c0 := hl1.cell (i := k) (by omega)
      have c1 := hl1.free (i := k)
      have HN : Hid (LRep (w1.setCell ⟨gB, k, none⟩ (.int .i64 (portsC kd ar))) gB (startF (os.map OV.o) (k + 1))) := by
        refine hide ?_
        rw [startF_next]
        have h := hl1.set (i := k) (by omega) (portsC kd ar)
        unfold portsO
        rw [HMO.out]
        exact h
      have HO1 : Hid (Only (· = gB) V (w1.setCell ⟨gB, k, none⟩ (.int .i64 (portsC kd ar)))) := hide ((HOn.out.trans (Only.fresh hb1 _)).trans (Only.set _ _ _ _ rfl))
      clear b1 hb1 hl1 d0 d1 d2 d3 d4
      gi_wp2
      go_roundw
      case rel => exact ⟨k + 1, by omega, by first | rfl | go_num, HN, HO1⟩
      case measure => simp [intOf]; omega
    · obtain rfl : k = os.length := by omega
      obtain ⟨bk, hbk⟩ : ∃ bk, wr.heap.size = bk := ⟨_, rfl⟩
      have hbg : gB < bk := by have := HOn.out.size; omega
      have HFL : Hid (LRep wr gB (leftF (os.map OV.o) 0)) := by
        refine hide ?_
        rw [leftF_zero]
        simp only [List.length_map]
        exact HLR.out
      have HTL := hide (tellG_len (os.map OV.o) 0)
      gi_wp2_with fail
      refine ⟨trivial, fun _ => by omega, (callsIn_wide.2 inputs_any).mono ?_⟩
      rintro _ w3 ⟨rfl, hw3⟩
      rw [hbk]
      have hb3 : Below wr.heap.size wr w3 := by rw [hw3]; exact alloc_below wr _
      have HBX : Hid (w3.heap[bk]? = some (.cells #[.slice p os.length cap] 22 (0, 0))) := by rw [hw3, ← hbk]; exact hide (heap_alloc_new _ _)
      have HL3 := hide (HFL.out.below hb3)
      have HO3 : Hid (Only (· = gB) V w3) := hide (HOn.out.trans (Only.fresh hb3 _))
      have h3s : w3.heap.size = bk + 1 := by rw [hw3, ← hbk]; simp
      clear hw3 hb3 hbk HLR HFL HV2
      gi_wp2_with fail
      refine range_list3 (by omega) (inputs_tells (n - 1) (by omega) (Bk := bk) (p := p) (cap := cap) (os := os)) rfl enInputs ?size (fun k X => LRep X gB (leftF (os.map OV.o) k) ∧ Only (· = gB) V X ∧ X.heap[bk]? = some (.cells #[.slice p os.length cap] 22 (0, 0))) (fun _ _ _ => False) ?grows ?puts (fun _ _ _ _ _ _ h => h.elim) ?reads ?start
        (fun x X => { tmps := #[.slice p os.length cap, undef, .int .i64 0, .bool false, .pointer (some ⟨gB, 0, none⟩), u5, u6, undef, .pointer (some ⟨X.heap.size, 0, none⟩), undef, .slice p os.length cap, .int .i64 (os.length : Int), .int .i64 (os.length : Int), .bool false, u14, u15, u16, u17, u18, u19, u20, u21, .slice p os.length cap, .func (.func 123) #[] #[.pointer (some ⟨bk, 0, none⟩)], x.getD 0 undef, x.getD 1 undef, undef, undef, undef, undef, undef, undef, undef, undef, undef, undef, undef], defers := [] }) (fun x X => X.alloc (.cells (aggC (x.getD 1 undef)) 119 (0, 0))) (fun k X => alloc_below X _) ?assign ?body ?done (fun _ _ _ _ _ _ h => h.elim)
      case size =>
        intro k hk
        rw [HTL.out] at hk
        obtain ⟨m, hm⟩ := tellG_edge (os.map OV.o) 0 k hk
        rw [hm]
        rfl
      case grows =>
        rintro k W1 W2 ⟨h1, h2, h3⟩ hb
        exact ⟨h1.below hb, h2.trans (Only.fresh hb _), below_box hb h3⟩
      case puts =>
        rintro k W1 l ob o' ⟨h1, h2, h3⟩ hl1 ho1 hc1
        have hoo : Only (· = l) W1 (W1.putObj l o') := Only.of_grown (F := (· = l)) (grownBy_putObj' W1 l o') (fun k e => by simpa using e.symm)
        refine ⟨?_, h2.step hoo (fun i e => .inr (by have e' : i = l := e; omega)), hoo.obj h3 (fun e => by have e' : bk = l := e; omega)⟩
        obtain ⟨cs, g1, g2⟩ := h1
        exact ⟨cs, hoo.obj g1 (fun e => by have e' : gB = l := e; omega), g2⟩
      case reads =>
        rintro k W1 ⟨h1, h2, h3⟩
        exact ⟨by simp [World.cell?, h3], HO.out.below (HWX.out _ h2)⟩
      case start => exact ⟨HL3.out, HO3.out, HBX.out⟩
      case assign =>
        intro l k X K hk hK
        rw [HTL.out] at hk
        obtain ⟨m, hm⟩ := tellG_edge (os.map OV.o) 0 k hk
        rw [hm] at hK ⊢
        obtain ⟨e, he⟩ : ∃ e, (flatC (os.map OV.o))[k]! = e := ⟨_, rfl⟩
        rw [he] at hK ⊢
        unfold eV at hK ⊢
        clear hm he
        simp only [aggC, Array.getD_eq_getD_getElem?, List.getElem?_toArray, List.getElem?_cons_zero, List.getElem?_cons_succ, Option.getD_some] at hK
        gi_wp2
        exact hK
      case body =>
        rintro l k Z X ⟨h1, h2, h3⟩ hk hsz hoX hlZ hwl
        rw [HTL.out] at hk
        obtain ⟨m, hm⟩ := tellG_edge (os.map OV.o) 0 k hk
        rw [hm] at hoX ⊢
        obtain ⟨e, he⟩ : ∃ e, (flatC (os.map OV.o))[k]! = e := ⟨_, rfl⟩
        have hem : e ∈ flatC (os.map OV.o) := by rw [← he, getElem!_pos (flatC (os.map OV.o)) k hk]; exact List.getElem_mem _
        obtain ⟨g1, g2, _, _⟩ := edge_good HS.out hem
        rw [List.length_map] at g2
        have h96 := flat_96 HS.out (by simpa using hl)
        rw [he] at hoX ⊢
        obtain ⟨ef, ep⟩ := e
        simp only at g1 g2
        obtain ⟨t, rfl⟩ : ∃ t : Nat, ef = (t : Int) := ⟨ef.toNat, by omega⟩
        have ht : t < 24 := by omega
        unfold eV at hoX ⊢
        simp only [aggC, Array.getD_eq_getD_getElem?, List.getElem?_toArray, List.getElem?_cons_zero, List.getElem?_cons_succ, Option.getD_some] at hoX ⊢
        have hpb : X.heap[Z.heap.size]? = some (.cells #[.int .i64 (t : Int), .int .i64 ep] 119 (0, 0)) := hoX.obj (heap_alloc_new Z _) (fun e => by have e' : Z.heap.size = l := e; omega)
        have b0 : X.cell? ⟨Z.heap.size, 0, none⟩ = some (.int .i64 (t : Int)) := by simp [World.cell?, hpb]
        have c0 := h1.cell ht
        have c1 := h1.free (i := t)
        have q1 := startF_bd (os.map OV.o) (os.map OV.o).length t
        have q2 := subN_le (os.map OV.o) k t
        obtain ⟨v, hv⟩ : ∃ v, leftF (os.map OV.o) k t = v := ⟨_, rfl⟩
        have hvb : -100 ≤ v ∧ v ≤ 100 := by rw [← hv]; unfold leftF; omega
        rw [hv] at c0
        have HN : Hid (LRep (X.setCell ⟨gB, t, none⟩ (.int .i64 (v - 1))) gB (leftF (os.map OV.o) (k + 1))) := by
          refine hide ?_
          rw [leftF_next hk (t := t) (by rw [he]), hv]
          exact h1.set ht _
        have HN2 : Hid (Only (· = gB) V (X.setCell ⟨gB, t, none⟩ (.int .i64 (v - 1)))) := hide (h2.trans (Only.set _ _ _ _ rfl))
        have HN3 : Hid ((X.setCell ⟨gB, t, none⟩ (.int .i64 (v - 1))).heap[bk]? = some (.cells #[.slice p os.length cap] 22 (0, 0))) := hide ((Only.set (F := (· = gB)) X gB t (.int .i64 (v - 1)) rfl).obj h3 (fun e => by have e' : bk = gB := e; omega))
        have HN4 : Hid (∀ B, KeepsFrom B X (X.setCell ⟨gB, t, none⟩ (.int .i64 (v - 1)))) := hide (fun B => h1.keeps (Only.set _ _ _ _ rfl))
        clear h1 h2 h3 hm he hem hoX hpb hv q1 q2 g1 g2
        gi_wp2
        exact ⟨HN4.out _, HN.out, HN2.out, HN3.out⟩
      case done =>
        rintro D X hD ⟨h1, h2, h3⟩ hK
        rw [HTL.out] at h1
        have hix := index_any h1
        rw [first_loose HS.out (by simpa using hl)] at hix
        have HIX : Hid (Calls Tryz.prog 121 #[.slice (some ⟨gB, 0, none⟩) 24 24, .func (.func 122) #[] #[]] X fun e w' => e = .returned (.int .i64 rv) ∧ w' = X) := by
          refine hide (hix.mono ?_)
          rintro e w' ⟨he, hw⟩
          exact ⟨he.trans (congrArg (fun z => Ending.returned (.int .i64 z)) HRV.out), hw⟩
        clear hix
        have HIS : Hid ((looseAt (os.map OV.o)).isSome = decide (0 ≤ rv)) := by
          refine hide ?_
          rw [← HRV.out]
          cases looseAt (os.map OV.o) with
          | some n => simp
          | none => rfl
        have HB := hide (HWX.out _ h2)
        have hsX := h2.size
        have HK := hide hK
        clear h1 h2 h3 hK
        gi_wp2_with fail
        refine ⟨trivial, fun _ => by omega, (callsIn_wide.2 HIX.out).mono ?_⟩
        rintro _ w5 ⟨rfl, rfl⟩
        have HFB : Hid (∀ ob, Below W.heap.size W (w5.putObj D ob)) := by
          refine hide (fun ob => ?_)
          have hb := HB.out
          exact hb.trans ((Only.of_grown (F := (· = D)) (grownBy_putObj' w5 D ob) (fun k e => by simpa using e.symm)).below hb.size (fun i e => by have e' : i = D := e; omega))
        by_cases h0 : 0 ≤ rv
        · have e1 : decide (rv ≥ 0) = true := decide_eq_true h0
          have HQ : Hid (rb = true) := hide (by rw [← HRB.out, HIS.out]; exact decide_eq_true h0)
          clear h0
          gi_wp2
          refine ⟨by simp, .inl ⟨_, _, rfl, run_takeDeferred HK.out, ?_⟩⟩
          refine ⟨_, results_tmp2 rfl _ _ _, ?_, ?_⟩
          · rw [HQ.out]; rfl
          · first | exact HFB.out _ | (rw [← hgB]; exact HFB.out _)
        · have e1 : decide (rv ≥ 0) = false := decide_eq_false h0
          have HQ : Hid (rb = false) := hide (by rw [← HRB.out, HIS.out]; exact decide_eq_false h0)
          clear h0
          gi_wp2
          refine ⟨by simp, .inl ⟨_, _, rfl, run_takeDeferred HK.out, ?_⟩⟩
          refine ⟨_, results_tmp2 rfl _ _ _, ?_, ?_⟩
          · rw [HQ.out]; rfl
          · first | exact HFB.out _ | (rw [← hgB]; exact HFB.out _)
theorem loose_any : LooseOp := fun _ _ _ _ _ ho hl hs => callsIn_wide.1 (loose_in 4 (Nat.le_refl _) ho hl hs rfl rfl)
/-- The program's Check. -/
theorem check_any {W : World} {parts : Int} {p : Option Addr} {cap : Nat} {os : List OV} (ho : GRow W p cap os) :
    Calls Tryz.prog 66 #[.agg #[.int .i64 parts, .slice p os.length cap]] W fun e w' => e = .returned (.tuple #[.int .i64 (checkC parts (os.map OV.o)).1, .int .i64 (checkC parts (os.map OV.o)).2]) ∧ Below W.heap.size W w' := check_from loose_any ho
end Go.Proofs.YtlfipmieaabagaaGreat
