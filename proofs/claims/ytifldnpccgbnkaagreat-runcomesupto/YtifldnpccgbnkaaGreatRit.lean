/-
  What the program's inTurn tells: what is taken, in order, with whose it is. The conditions: the lists stay as they lie.
-/
import Derived.Test.YtifldnpccgbnkaaGreatRgl
import Derived.Test.YtifldnpccgbnkaaGreatRtp
import Derived.WalkMore
namespace Go.Proofs.YtifldnpccgbnkaaGreat
open Go.RowKit Go.Shelf
attribute [local go_sem] Oper.semAt_some

def rV (r : RC) : Value := .agg #[.int .i64 r.key, .int .i64 r.val]
def tellT (ls : List (List RC)) (t N : Nat) : List (Array Value) := (List.range N).map fun j => #[.int .i64 ((whoC ls.length t j : Nat) : Int), rV (recAt ls t j)]
theorem tellT_len (ls : List (List RC)) (t N : Nat) : (tellT ls t N).length = N := by simp [tellT]
theorem tellT_get {ls : List (List RC)} {t N j : Nat} (hj : j < N) : (tellT ls t N).getD j #[] = #[.int .i64 ((whoC ls.length t j : Nat) : Int), rV (recAt ls t j)] := by
  simp [tellT, List.getD_eq_getElem?_getD, List.getElem?_map, List.getElem?_range hj]
theorem lenAt_map {xs : List SV} {i : Nat} (hi : i < xs.length) : lenAt (xs.map SV.rs) i = (xs[i]!).rs.length := by
  unfold lenAt
  rw [getElem!_pos (xs.map SV.rs) i (by simpa using hi), getElem!_pos xs i hi, List.getElem_map]
theorem recAt_map {xs : List SV} {t j : Nat} (hi : whoC xs.length t j < xs.length) : recAt (xs.map SV.rs) t j = (xs[whoC xs.length t j]!).rs[j / xs.length]! := by
  unfold recAt
  rw [List.length_map, getElem!_pos (xs.map SV.rs) _ (by simpa using hi), List.getElem_map, getElem!_pos xs _ hi]

set_option maxRecDepth 100000 in
set_option maxHeartbeats 4000000 in
theorem inTurn_tells (q : Nat) (hq : 1 ≤ q) {tB lB : Nat} {p : Option Addr} {cap t N : Nat} {xs : List SV} (ht : t < xs.length) (hN : Stop (xs.map SV.rs) t N) (hNb : N ≤ 4611686018427387904) :
    Tells q 73 #[.pointer (some ⟨tB, 0, none⟩), .pointer (some ⟨lB, 0, none⟩)] (tellT (xs.map SV.rs) t N) (fun W => W.cell? ⟨tB, 0, none⟩ = some (.int .i64 (t : Int)) ∧ W.cell? ⟨lB, 0, none⟩ = some (.slice p xs.length cap) ∧ LL W p cap xs) := by
  intro l J Jx hr hY W h0
  have HR := hide hr
  have HY := hide hY
  have H0 := hide h0
  obtain ⟨hct, hcl, hrow⟩ := hr 0 W h0
  have i3 := hrow.row.le
  have i4 := hrow.row.top
  obtain ⟨n, hn⟩ : ∃ n, xs.length = n := ⟨_, rfl⟩
  have HN := hide hN
  have HXN := hide hn
  have hml : (xs.map SV.rs).length = n := by rw [List.length_map, hn]
  have HML := hide hml
  have HTL := hide (tellT_len (xs.map SV.rs) t N)
  rw [hn] at hcl i3 ht
  clear hr hY h0 hrow hn hN hml
  have e1 : decide ((t : Int) < 0) = false := decide_eq_false (by omega)
  have e2 : decide ((t : Int) ≥ (n : Int)) = false := decide_eq_false (by omega)
  have e3 : decide (n ≤ t) = false := decide_eq_false (by omega)
  show CallsIn Fence.wide q Tryz.prog 73 #[.func (.yield l) #[] #[], .pointer (some ⟨tB, 0, none⟩), .pointer (some ⟨lB, 0, none⟩)] W _
  refine callsIn_of_wp Tryz.func73 rfl trivial ?_ rfl
  simp only [Tryz.ntmps73, List.size_toArray, List.length_cons, List.length_nil, Nat.reduceAdd, Nat.reduceSub, Array.replicate_succ, Array.replicate_zero, List.push_toArray, List.append_toArray, List.nil_append, List.cons_append]
  gi_wp2
  refine wpIn_scope_wide ?_
  gi_wp2
  refine wpIn_label ?_
  gi_wp2
  gi_loopw [4, 5] (fun i r wr => ∃ u : Nat, u * n ≤ N ∧ i = .int .i64 ((whoC n t (u * n) : Nat) : Int) ∧ r = .int .i64 (u : Int) ∧ Hid (J (u * n) wr)) (fun _ r _ => N + 1 - (intOf r).toNat)
  case atStart => exact ⟨0, by simp, by rw [Nat.zero_mul, who_zero ht], rfl, by rw [Nat.zero_mul]; exact H0⟩
  case round =>
    obtain ⟨u, hu, rfl, rfl, HJ⟩ := hrel
    clear H0 hct hcl
    obtain ⟨_, hcl, _⟩ := HR.out _ wr HJ.out
    rw [HXN.out] at hcl
    have huN : u ≤ N := Nat.le_trans (Nat.le_mul_of_pos_right u (by omega)) hu
    gi_wp2
    gi_loopw [4, 19] (fun i k wq => ∃ m : Nat, m ≤ n ∧ u * n + m ≤ N ∧ i = .int .i64 ((whoC n t (u * n + m) : Nat) : Int) ∧ k = .int .i64 (m : Int) ∧ Hid (J (u * n + m) wq)) (fun _ k _ => n - (intOf k).toNat)
    case atStart => exact ⟨0, Nat.zero_le _, by simpa using hu, by rw [Nat.add_zero], rfl, by rw [Nat.add_zero]; exact HJ⟩
    case round =>
      obtain ⟨m, hm, hj, rfl, rfl, HJm⟩ := hrel
      rename World => wq
      clear hcl HJ
      obtain ⟨_, hcl, hll⟩ := HR.out _ wq HJm.out
      rw [HXN.out] at hcl
      by_cases hlt : m < n
      · obtain ⟨j, hje⟩ : ∃ j, u * n + m = j := ⟨_, rfl⟩
        have hdiv : j / n = u := by rw [← hje, Nat.mul_comm, Nat.mul_add_div (by omega), Nat.div_eq_of_lt hlt, Nat.add_zero]
        rw [hje] at HJm hj ⊢
        obtain ⟨i, hi⟩ : ∃ i, whoC n t j = i := ⟨_, rfl⟩
        have hin : i < n := by rw [← hi]; exact who_lt ht
        have hin2 : i < xs.length := by rw [HXN.out]; exact hin
        obtain ⟨g, o, rfl, hc⟩ := hll.at hin2
        have hnx : whoC n t (j + 1) = (i + 1) % n := by rw [who_next, hi]
        have HNX := hide hnx
        have HLA := hide (lenAt_map hin2)
        have hwj : whoC (xs.map SV.rs).length t j = i := by rw [HML.out]; exact hi
        have hxm : xs[i]! ∈ xs := by rw [getElem!_pos xs i hin2]; exact List.getElem_mem _
        have hrow := hll.ok _ hxm
        have hrec : recAt (xs.map SV.rs) t j = (xs[i]!).rs[u]! := by
          rw [recAt_map (by rw [HXN.out, hi]; exact hin), HXN.out, hi, hdiv]
        have hle : u ≤ (xs[i]!).rs.length := by
          have := stop_le (by rw [HML.out]; exact ht) HN.out hj
          rw [hwj, HML.out, hdiv, HLA.out] at this
          exact this
        obtain ⟨x, hx⟩ : ∃ x, xs[i]! = x := ⟨_, rfl⟩
        rw [hx] at hc hrow hrec hle HLA
        obtain ⟨rs, xp, xc⟩ := x
        simp only at hc hrec hle HLA
        have hrow2 : RRow wq xp xc rs := hrow
        have hrl := hrow2.le
        have hrt := hrow2.top
        have HWJ := hide hwj
        have HI := hide hi
        have HDV := hide hdiv
        have HJE := hide hje
        rw [hi]
        clear hi hdiv hwj hnx hxm hrow hx hll hje
        by_cases hlong : u < rs.length
        · have hjN : j < N := by
            refine Nat.lt_of_le_of_ne hj (fun e => ?_)
            have h := HN.out.ends
            rw [← e] at h
            apply h
            unfold LongC
            rw [HWJ.out, HML.out, HDV.out, HLA.out]
            exact hlong
          obtain ⟨r, hr⟩ : ∃ r, rs[u]! = r := ⟨_, rfl⟩
          obtain ⟨g2, o2, rfl, c0, c1⟩ := hrow2.at hlong hr
          have hgt := tellT_get (ls := xs.map SV.rs) (t := t) hjN
          rw [HWJ.out, hrec, hr] at hgt
          obtain ⟨ky, vl⟩ := r
          simp only [rV] at hgt c0 c1
          obtain ⟨fn', tmps, assign, body, hyy, hRd⟩ := HY.out j wq HJm.out (by rw [HTL.out]; exact hjN)
          rw [hgt] at hyy
          have HRd := hide hRd
          have HMX : Hid (u * n + (m + 1) = j + 1) := hide (by have := HJE.out; omega)
          have HWN : Hid (whoC n t (u * n + (m + 1)) = (i + 1) % n) := hide (by rw [HMX.out]; exact HNX.out)
          have HJN : Hid (u * n + (m + 1) ≤ N) := hide (by rw [HMX.out]; exact hjN)
          have hne : (u == rs.length) = false := by simpa using (show u ≠ rs.length by omega)
          have hnd : decide (u = rs.length) = false := decide_eq_false (by omega)
          have HTT : Hid (j + 1 ≤ (tellT (xs.map SV.rs) t N).length) := hide (by rw [HTL.out]; exact hjN)
          clear hRd hgt hr hrec hrow2 hj HJm
          gi_wp2
          refine HRd.out.mono ?_
          rintro e W3 (⟨rfl, hJ3⟩ | ⟨rfl, hJ3⟩)
          · have J3 : Hid (J (u * n + (m + 1)) W3) := hide (by rw [HMX.out]; exact hJ3)
            have hcl3 := (HR.out _ W3 hJ3).2.1
            rw [HXN.out] at hcl3
            clear HRd hyy hJ3 c0 c1 hcl hc
            gi_wp2
            go_roundw
            case rel => exact ⟨m + 1, by omega, HJN.out, by rw [HWN.out, Int.natCast_emod, Int.natCast_add]; rfl, by first | rfl | go_num, J3⟩
            case measure => simp [intOf]; omega
          · have J3 := hide hJ3
            clear HRd hyy hJ3 c0 c1 hcl hc
            gi_wp2
            simp only [Exit.noGoto]
            refine bodyPost_end (results_none rfl _ _ _) rfl ?_
            exact ⟨⟨_, rfl⟩, .inr ⟨j + 1, HTT.out, J3.out⟩⟩
        · have hul : u = rs.length := by omega
          have hne : (u == rs.length) = true := by simpa using hul
          have hnd : decide (u = rs.length) = true := decide_eq_true hul
          have HJN : Hid (J (tellT (xs.map SV.rs) t N).length wq) := by
            have e : j = N := by
              apply Nat.le_antisymm hj
              apply Nat.le_of_not_lt
              intro c
              have h := HN.out.long j c
              unfold LongC at h
              rw [HWJ.out, HML.out, HDV.out, HLA.out] at h
              omega
            rw [HTL.out, ← e]
            exact HJm
          clear hul hrow2 hrec hj HJm
          gi_wp2
          refine ⟨(fun _ h => nomatch h), ?_⟩
          gi_wp2
          simp only [Exit.noGoto]
          refine bodyPost_end (results_none rfl _ _ _) rfl ?_
          exact ⟨⟨_, rfl⟩, .inl HJN.out⟩
      · obtain rfl : m = n := by omega
        have HMX : Hid (u * m + m = (u + 1) * m) := hide (by rw [Nat.succ_mul])
        rw [HMX.out] at HJm hj ⊢
        have hu1 : u + 1 ≤ N := Nat.le_trans (Nat.le_mul_of_pos_right (u + 1) (by omega)) hj
        gi_wp2
        exact ⟨⟨u + 1, hj, rfl, by go_num, HJm⟩, by simp [intOf]; omega⟩

set_option maxRecDepth 100000 in
set_option maxHeartbeats 4000000 in
theorem inTurn_none (q : Nat) (_hq : 1 ≤ q) {tB lB : Nat} {p : Option Addr} {cap n : Nat} {t : Int} (ht : t < 0 ∨ (n : Int) ≤ t) :
    Tells q 73 #[.pointer (some ⟨tB, 0, none⟩), .pointer (some ⟨lB, 0, none⟩)] [] (fun W => W.cell? ⟨tB, 0, none⟩ = some (.int .i64 t) ∧ W.cell? ⟨lB, 0, none⟩ = some (.slice p n cap)) := by
  intro l J Jx hr hY W h0
  have H0 := hide h0
  obtain ⟨hct, hcl⟩ := hr 0 W h0
  clear hr hY h0
  show CallsIn Fence.wide q Tryz.prog 73 #[.func (.yield l) #[] #[], .pointer (some ⟨tB, 0, none⟩), .pointer (some ⟨lB, 0, none⟩)] W _
  refine callsIn_of_wp Tryz.func73 rfl trivial ?_ rfl
  simp only [Tryz.ntmps73, List.size_toArray, List.length_cons, List.length_nil, Nat.reduceAdd, Nat.reduceSub, Array.replicate_succ, Array.replicate_zero, List.push_toArray, List.append_toArray, List.nil_append, List.cons_append]
  by_cases h1 : t < 0
  · have e1 : decide (t < 0) = true := decide_eq_true h1
    gi_wp2
    refine wpIn_scope_wide ?_
    gi_wp2
    try simp only [Exit.noGoto]
    refine bodyPost_ret (results_none rfl _ _ _) rfl ?_
    exact ⟨⟨_, rfl⟩, .inl H0.out⟩
  · have e1 : decide (t < 0) = false := decide_eq_false h1
    have e2 : decide (t ≥ (n : Int)) = true := decide_eq_true (by omega)
    have e3 : decide ((n : Int) ≤ t) = true := decide_eq_true (by omega)
    gi_wp2
    refine wpIn_scope_wide ?_
    gi_wp2
    simp only [Exit.noGoto]
    refine bodyPost_ret (results_none rfl _ _ _) rfl ?_
    exact ⟨⟨_, rfl⟩, .inl H0.out⟩
theorem inTurn_any {W : World} {t : Int} {p : Option Addr} {n cap : Nat} :
    Calls Tryz.prog 57 #[.int .i64 t, .slice p n cap] W fun e w' => e = .returned (.func (.func 73) #[] #[.pointer (some ⟨W.heap.size, 0, none⟩), .pointer (some ⟨W.heap.size + 1, 0, none⟩)]) ∧ w' = (W.alloc (.cells #[.int .i64 t] 3 (0, 0))).alloc (.cells #[.slice p n cap] 25 (0, 0)) := by
  go_enter Tryz.func57, Tryz.ntmps57
  go_wp2
  go_ret
  exact ⟨rfl, rfl⟩
theorem enInTurn : ∀ args w, (callFunc 73 args).run Tryz.prog w = .ok (.enter 73 args) w := enters_of Tryz.func73 (by kernel_rfl) rfl
end Go.Proofs.YtifldnpccgbnkaaGreat
