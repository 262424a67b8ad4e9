/- Contract: huge: whether periods are too many for the laws. -/
import Derived.Test.YtlogapkpllgdcaaDoorPdMem
namespace Go.Proofs.YtlogapkpllgdcaaDoor
open Go.RowKit

def cntE (l : List Ent) : Nat := (l.map fun e => 1 + min e.sp.length 100).sum
def cntP (p : Prd) : Nat := min p.ex.length 1000 + cntE (p.es.take 100) + (if 100 < p.es.length then 1000 else 0)
def hugeB (l : List Prd) : Bool := decide (80 < l.length) || decide (60 < (l.map cntP).sum)
theorem cntE_take (l : List Ent) (k : Nat) (hk : k < l.length) : cntE (l.take (k + 1)) = cntE (l.take k) + (1 + min (l.getD k dE).sp.length 100) := by
  unfold cntE
  rw [List.take_add_one, getD_some hk dE, List.map_append, List.sum_append]
  simp
theorem cntE_le (l : List Ent) : cntE l ≤ 101 * l.length := by
  unfold cntE
  induction l with
  | nil => simp
  | cons a l ih => rw [List.map_cons, List.sum_cons, List.length_cons]; omega
theorem cntP_le (p : Prd) : cntP p ≤ 12100 := by
  unfold cntP
  have h1 := cntE_le (p.es.take 100)
  have h2 : (p.es.take 100).length ≤ 100 := by rw [List.length_take]; omega
  split <;> omega
theorem cntS_take (l : List Prd) (k : Nat) (hk : k < l.length) : ((l.take (k + 1)).map cntP).sum = ((l.take k).map cntP).sum + cntP (l.getD k dP) := by
  rw [List.take_add_one, getD_some hk dP, List.map_append, List.sum_append]
  simp
theorem cntS_le (l : List Prd) : (l.map cntP).sum ≤ 12100 * l.length := by
  induction l with
  | nil => simp
  | cons a l ih => rw [List.map_cons, List.sum_cons, List.length_cons]; have := cntP_le a; omega
theorem sum_mem {l : List Prd} {p : Prd} (h : p ∈ l) : cntP p ≤ (l.map cntP).sum := by
  induction l with
  | nil => cases h
  | cons a l ih =>
    rw [List.map_cons, List.sum_cons]
    rcases List.mem_cons.1 h with rfl | h
    · omega
    · have := ih h; omega
theorem sumE_mem {l : List Ent} {e : Ent} (h : e ∈ l) : 1 + min e.sp.length 100 ≤ cntE l := by
  unfold cntE
  induction l with
  | nil => cases h
  | cons a l ih =>
    rw [List.map_cons, List.sum_cons]
    rcases List.mem_cons.1 h with rfl | h
    · omega
    · have := ih h; omega
/-- What is not huge is small. -/
theorem not_huge {l : List Prd} (h : hugeB l = false) : l.length ≤ 100 ∧ ∀ p ∈ l, p.es.length ≤ 100 ∧ p.ex.length ≤ 100 ∧ ∀ e ∈ p.es, e.sp.length ≤ 100 := by
  unfold hugeB at h
  simp only [Bool.or_eq_false_iff, decide_eq_false_iff_not] at h
  refine ⟨by omega, fun p hp => ?_⟩
  have h1 := sum_mem hp
  have h2 : cntP p ≤ 60 := by omega
  unfold cntP at h2
  have h3 : p.es.length ≤ 100 := by split at h2 <;> omega
  rw [List.take_of_length_le h3] at h2
  refine ⟨h3, by omega, fun e he => ?_⟩
  have := sumE_mem he
  omega
theorem mem_nil_len {l : List Prd} : hugeB l = true → 80 < l.length ∨ 60 < (l.map cntP).sum := fun h => by
  unfold hugeB at h
  simpa using h
set_option maxRecDepth 100000 in
set_option maxHeartbeats 2000000 in
theorem huge_any (l : List Prd) (v : Value) (w : World) (hset : HPd w v l) :
    Calls Tryd.prog 6 #[v] w fun e w' => e = .returned (.bool (hugeB l)) ∧ w = w' := by
  obtain ⟨A, c, E, U, rfl, _, _, hk⟩ := hset
  have HK := Lib.hid hk
  obtain ⟨n, hn⟩ : ∃ n, l.length = n := ⟨_, rfl⟩
  have HBIG := Lib.hid (show 80 < n → hugeB l = true from fun h => by unfold hugeB; rw [hn, decide_eq_true h]; rfl)
  have HSMALL := Lib.hid (show ¬ 80 < n → hugeB l = decide (60 < (l.map cntP).sum) from fun h => by unfold hugeB; rw [hn, decide_eq_false h]; rfl)
  have HN := Lib.hid hn
  rw [hn]
  clear hk hn
  by_cases hbig : 80 < n
  · have hd : decide (80 < (n : Int)) = true := decide_eq_true (by omega)
    go_enter Tryd.func6, Tryd.ntmps6
    go_wp2_with fail
    go_ret
    exact ⟨ret_bool (HBIG.out hbig).symm, rfl⟩
  · have hd : decide (80 < (n : Int)) = false := decide_eq_false (by omega)
    have hn80 : (n : Int) ≤ 80 := by omega
    have HB := Lib.hid (HSMALL.out hbig)
    clear hbig HBIG HSMALL
    go_enter Tryd.func6, Tryd.ntmps6
    go_wp2_with fail
    clear hd
    go_loop [3, 4] (fun s a => ∃ i z : Nat, i ≤ n ∧ a = .int .i64 i ∧ s = .int .i64 z ∧ ((l.take i).map cntP).sum = z) (fun _ a => n - (intOf a).toNat)
    case atStart => exact ⟨0, 0, Nat.zero_le _, rfl, rfl, rfl⟩
    case round =>
      obtain ⟨i, z, hin, rfl, rfl, hz⟩ := hrel
      have hzb := cntS_le (l.take i)
      rw [hz, List.length_take] at hzb
      have hz2 : (z : Int) ≤ 968000 := by omega
      have HZ := Lib.hid hz
      clear hz hzb
      by_cases hlt : i < n
      · have hlt' : i < l.length := by rw [HN.out]; exact hlt
        obtain ⟨⟨ad, X, rfl, hX, x1, x2⟩, hes, hex⟩ := HK.out i hlt'
        obtain ⟨p, hp⟩ : ∃ p, l.getD i dP = p := ⟨_, rfl⟩
        rw [hp] at hes hex
        obtain ⟨es, ex⟩ := p
        simp only at hes hex
        obtain ⟨Ae, ce, S, hE, _, _, hks⟩ := hes
        obtain ⟨Au, cu, hU, _⟩ := hex
        obtain ⟨ne, hne⟩ : ∃ ne, es.length = ne := ⟨_, rfl⟩
        obtain ⟨mu, hmu⟩ : ∃ mu, ex.length = mu := ⟨_, rfl⟩
        rw [hne] at hE
        rw [hmu] at hU
        rw [hE] at x1
        rw [hU] at x2
        obtain ⟨mm, hmm⟩ : ∃ mm : Nat, min mu 1000 = mm := ⟨_, rfl⟩
        have hmi : (if 1000 < (mu : Int) then 1000 else (mu : Int)) = (mm : Int) := by split <;> omega
        have hmm2 : (mm : Int) ≤ 1000 := by omega
        have HKS := Lib.hid hks
        have HP := Lib.hid (And.intro hp (And.intro hne (And.intro hmu (And.intro hmm hlt'))))
        clear hks hp hne hmu hmm hE hU hlt'
        go_wp2_with fail
        clear hmi
        go_loop [3, 5] (fun s a => ∃ k u : Nat, k ≤ ne ∧ k ≤ 100 ∧ a = .int .i64 k ∧ s = .int .i64 u ∧ z + mm + cntE (es.take k) = u) (fun _ a => ne - (intOf a).toNat)
        case atStart => exact ⟨0, z + mm, Nat.zero_le _, Nat.zero_le _, rfl, by go_num, rfl⟩
        case round =>
          obtain ⟨k, u, hk1, hk2, rfl, rfl, hu⟩ := hrel
          have hub := cntE_le (es.take k)
          rw [List.length_take] at hub
          have hu2 : (u : Int) ≤ 990000 := by omega
          have HU := Lib.hid hu
          clear hu hub
          by_cases hgo : k < ne ∧ k < 100
          · obtain ⟨hg1, hg2⟩ := hgo
            have hg1' : k < es.length := by rw [HP.out.2.1]; exact hg1
            obtain ⟨⟨ae, Y, rfl, hY, hat⟩, hsp⟩ := HKS.out k hg1'
            obtain ⟨_, _, _, _, _, _, _, _, _, _, c10⟩ := hat
            obtain ⟨As, cs, hS, _⟩ := hsp
            obtain ⟨m, hm⟩ : ∃ m, (es.getD k dE).sp.length = m := ⟨_, rfl⟩
            rw [hm] at hS
            rw [hS] at c10
            obtain ⟨m2, hm2⟩ : ∃ m2 : Nat, min m 100 = m2 := ⟨_, rfl⟩
            have hmi : (if 100 < (m : Int) then 100 else (m : Int)) = (m2 : Int) := by split <;> omega
            have hm3 : (m2 : Int) ≤ 100 := by omega
            have d1 : decide ((k : Int) < ne) = true := decide_eq_true (by omega)
            have d2 : decide ((k : Int) < 100) = true := decide_eq_true (by omega)
            have HT := Lib.hid (show z + mm + cntE (es.take (k + 1)) = u + 1 + m2 by rw [cntE_take es k hg1', hm, hm2]; have := HU.out; omega)
            have hk9 : (k : Int) ≤ 100 := by omega
            have hk8 : k + 1 ≤ ne ∧ k + 1 ≤ 100 := ⟨by omega, by omega⟩
            have HK8 := Lib.hid hk8
            clear hm hm2 hS hg1' hk8 hk2 hg2
            go_wp2_with fail
            go_round
            case rel => exact ⟨k + 1, u + 1 + m2, HK8.out.1, HK8.out.2, by go_num, by go_num, HT.out⟩
            case measure => simp [intOf]; omega
          · have hfull : cntE (es.take k) = cntE (es.take 100) := by
              rcases Nat.lt_or_ge k ne with h | h
              · have : k = 100 := by omega
                rw [this]
              · rw [List.take_of_length_le (by rw [HP.out.2.1]; exact h), List.take_of_length_le (by rw [HP.out.2.1]; omega)]
            have hsum := cntS_take l i HP.out.2.2.2.2
            rw [HZ.out, HP.out.1] at hsum
            have HS := Lib.hid hsum
            have HF := Lib.hid hfull
            clear hfull hsum
            have hcs : (k < ne ∧ (k : Int) = 100) ∨ (k = ne ∧ k < 100) ∨ (k = ne ∧ (k : Int) = 100) := by omega
            clear hgo
            by_cases hb : 100 < ne
            · have d3 : decide (100 < (ne : Int)) = true := decide_eq_true (by omega)
              have hk9 : (k : Int) = 100 := by omega
              have d1 : decide ((k : Int) < ne) = true := decide_eq_true (by omega)
              have d2 : decide ((k : Int) < 100) = false := decide_eq_false (by omega)
              have HG := Lib.hid (show ((l.take (i + 1)).map cntP).sum = u + 1000 by
                rw [HS.out]; unfold cntP; simp only; rw [HP.out.2.1, HP.out.2.2.1, HP.out.2.2.2.1, if_pos hb]; have := HU.out; have := HF.out; omega)
              have hkn : k < ne := by omega
              clear hcs hk9 hk2 d1
              go_wp2_with fail
              go_round
              case rel => exact ⟨i + 1, u + 1000, by omega, by go_num, by go_num, HG.out⟩
              case measure => simp [intOf]; omega
            · have d3 : decide (100 < (ne : Int)) = false := decide_eq_false (by omega)
              have hkn : k = ne := by omega
              have HG := Lib.hid (show ((l.take (i + 1)).map cntP).sum = u by
                rw [HS.out]; unfold cntP; simp only; rw [HP.out.2.1, HP.out.2.2.1, HP.out.2.2.2.1, if_neg hb]; have := HU.out; have := HF.out; omega)
              obtain rfl : k = ne := hkn
              clear hcs hb hk2
              go_wp2_with fail
              go_round
              case rel => exact ⟨i + 1, u, by omega, by go_num, rfl, HG.out⟩
              case measure => simp [intOf]; omega
      · obtain rfl : i = n := by omega
        have hfull : l.take i = l := by rw [← HN.out]; exact List.take_length
        have HQ := Lib.hid HZ.out
        rw [hfull] at HQ
        by_cases h60 : (60 : Int) < z
        · have hd : decide ((60 : Int) < z) = true := decide_eq_true h60
          go_wp2_with fail
          go_ret
          exact ⟨ret_bool (by rw [HB.out, HQ.out]; exact (decide_eq_true (by omega)).symm), rfl⟩
        · have hd : decide ((60 : Int) < z) = false := decide_eq_false h60
          go_wp2_with fail
          go_ret
          exact ⟨ret_bool (by rw [HB.out, HQ.out]; exact (decide_eq_false (by omega)).symm), rfl⟩
end Go.Proofs.YtlogapkpllgdcaaDoor
