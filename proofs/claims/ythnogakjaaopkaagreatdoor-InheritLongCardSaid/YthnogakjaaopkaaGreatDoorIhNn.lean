/- AppK, CutS, IhNm, in one text. -/
import Derived.Test.YthnogakjaaopkaaGreatDoorBase
import Derived.Deep.RegionHeld3
import Derived.Laws.ResultCell
import Derived.Laws.Rows
import Derived.Test.YthnogakjaaopkaaGreatDoorLx8
import Derived.Test.YthnogakjaaopkaaGreatDoorBrU
/- An append in a region that draws (of stage 3, apart). -/
namespace Go.Proofs.YthnogakjaaopkaaGreatDoor
open Go.RowKit

/-- An append in a region that draws: any number of elements of any size, from nil or any source. -/
theorem step_appK {P : Program} {w : World} {ops : Array Oper} {o : Oper} {a : Go.Act} {K : Go.Act → World → Prop} {Q : Exit → Go.Act → World → Prop} {E : Prop} (hgd : o.guard = none) (s x : Operand) (t : TypeId)
    (ho : o.op = .call { callee := .builtin .append, args := #[s, x], argTypes := #[t, t] })
    {e : TypeId} {z : Value} {size bytes : Nat} (ht : P.underlying t = some (.slice e)) (hinfo : (P.info? e).map (fun i => (i.zero, i.size, i.bytes)) = some (some z, size, bytes)) (hone : z.cells.size = size) (hsz : 0 < size)
    (base : Nat) (v : Value) (n : Nat) (xs : List Value) (hs : a.eval s = v) (hown : w.ownsRow base e size v n xs)
    (A : Option Addr) (m c : Nat) (news : List Value) (hx : a.eval x = .slice A m c) (hl : news.length = m * size) (hr : Rd w A news) (h1 : ∀ u ∈ news, u.oneCell' = true)
    (h63 : n + m ≤ maxLen) (hbytes : (n + m) * bytes ≤ 140737488355328) (hbase : base ≤ w.heap.size)
    (h : ∀ v' w', w'.ownsRow base e size v' (n + m) (xs ++ news) → w.grownBy w' v.ownBlock → (v'.ownBlock = v.ownBlock ∨ v'.ownBlock = some w.heap.size) → K (a.put o.dst v') w') :
    if Region.wanted o (yielded ops a.tmps) = true then Oper.wp P o a w K Q else E := by
  rw [if_pos (by simp [Region.wanted, hgd])]
  have hrun : ∃ v' w', (Builtin.append_ #[t, t] o.type #[v, .slice A m c]).run P w = .ok v' w' ∧ w'.ownsRow base e size v' (n + m) (xs ++ news) ∧ w.grownBy w' v.ownBlock ∧ (v'.ownBlock = v.ownBlock ∨ v'.ownBlock = some w.heap.size) := by
    obtain ⟨i, hi, hz, his, hib⟩ := info_parts hinfo
    rcases A with _ | ad
    · have hm : m = 0 := by
        rcases Nat.eq_zero_or_pos m with h0 | h0
        · exact h0
        · obtain ⟨ad, h, _⟩ := hr (by rw [hl]; exact Nat.mul_pos h0 hsz)
          cases h
      subst hm
      have hn : news = [] := List.eq_nil_of_length_eq_zero (by simpa using hl)
      subst hn
      refine ⟨v, w, ?_, by simpa using hown, World.grownBy.refl w _, .inl rfl⟩
      rcases hown.2 with ⟨rfl, rfl⟩ | ⟨g, cap, cur, rfl, _, _, hnc, _⟩
      · simp [Builtin.append_, run_underlying ht, sizeOf, typeInfo, hi, Builtin.lenOf, Builtin.firstCells]
      · simp [Builtin.append_, run_underlying ht, sizeOf, typeInfo, hi, Builtin.lenOf, Builtin.firstCells, hnc, storeCells]
    · have hcells : ∀ j u, news[j]? = some u → w.cell? (ad.add j) = some u := fun j u hu => by
        have hj := (List.getElem?_eq_some_iff.1 hu).1
        obtain ⟨ad', h, hc⟩ := hr (by omega)
        injection h with h
        subst h
        exact hc j u hu
      obtain ⟨v', w', hrun, h2, h3, _, h5⟩ := run_append_own_at (P := P) w base t o.type e i z size bytes ht hi hz his hib hone hsz v n xs hown ad m c news hl hcells h1 h63 hbytes hbase
      exact ⟨v', w', hrun, h2, h3, h5⟩
  obtain ⟨v', w', hrun, h2, h3, h4⟩ := hrun
  unfold Oper.wp execOp
  simp only [ho, resolve, invoke, builtin, Sem.run_bind, Sem.run_pure, Result.andThen_ok, List.map_toArray, List.map_cons, List.map_nil, hs, hx, hrun]
  exact h v' w' h2 h3 h4
end Go.Proofs.YthnogakjaaopkaaGreatDoor
/- Pieces of a slice of strings. -/
namespace Go.Proofs.YthnogakjaaopkaaGreatDoor
open Go.RowKit

theorem cutS_head (A : Option Addr) (L : List Tx) (p c a : Nat) (_ : L.length = p) (ha : a ≤ p) (hc : p ≤ c) :
    ∃ A1 C1, (∀ W, (Instr.slice 71 (.slice A p c) none (some (.int .i64 (a : Int))) none).run Tryz.prog W = .ok (.slice A1 a C1) W) ∧ ∀ W, RdS W A L → RdS W A1 (L.take a) := by
  have hel : Tryz.prog.elem 71 = 9 := by kernel_rfl
  have hsz : ∀ W, (sizeOf 9).run Tryz.prog W = .ok 1 W := fun W => by kernel_rfl
  refine ⟨if c = 0 then A else A.map (·.add 0), c, fun W => ?_, fun W h => ?_⟩
  · rw [run_slice_h _ _ _ _ _ (by rw [hel]; exact Tryz.underlying71) .i64 (a : Int) (by omega) (by omega), hel, hsz]
    simp [Result.andThen, sliced]
  · have e : (if c = 0 then A else A.map (·.add 0)) = A := by
      split
      · rfl
      · cases A with
        | none => rfl
        | some ad =>
          show some (ad.add 0) = some ad
          unfold Addr.add
          rw [if_pos rfl]
    rw [e]
    unfold RdS at h ⊢
    rw [List.map_take]
    exact Rd.take h
theorem cutS_tail (A : Option Addr) (L : List Tx) (p c a : Nat) (hp : L.length = p) (ha : a ≤ p) (hc : p ≤ c) :
    ∃ A1 C1, (∀ W, (Instr.slice 71 (.slice A p c) (some (.int .i64 (a : Int))) none none).run Tryz.prog W = .ok (.slice A1 (p - a) C1) W) ∧ ∀ W, RdS W A L → RdS W A1 (L.drop a) := by
  have hel : Tryz.prog.elem 71 = 9 := by kernel_rfl
  have hsz : ∀ W, (sizeOf 9).run Tryz.prog W = .ok 1 W := fun W => by kernel_rfl
  refine ⟨if c = a then A else A.map (·.add (a * 1)), c - a, fun W => ?_, fun W h hne => ?_⟩
  · rw [run_slice_l _ _ _ _ _ (by rw [hel]; exact Tryz.underlying71) .i64 (a : Int) (by omega) (by omega), hel, hsz]
    simp [Result.andThen, sliced]
  · rw [List.length_map, List.length_drop, hp] at hne
    obtain ⟨ad, hA, hcell⟩ := h (by rw [List.length_map, hp]; omega)
    subst hA
    rw [if_neg (by omega), Nat.mul_one]
    refine ⟨_, rfl, fun j u hu => ?_⟩
    rw [add_add']
    refine hcell _ u ?_
    rw [List.map_drop, List.getElem?_drop] at hu
    exact hu
end Go.Proofs.YthnogakjaaopkaaGreatDoor
/- Contract: the document's Names. -/
namespace Go.Proofs.YthnogakjaaopkaaGreatDoor
open Go.RowKit

/-- A name put where it belongs, if it is one and not there. -/
def insN (out : List Tx) (s : Tx) : List Tx :=
  if three s = true then out
  else if out[(out.takeWhile fun t => Op.bytesLess t s).length]? = some s then out
  else out.take (out.takeWhile fun t => Op.bytesLess t s).length ++ s :: out.drop (out.takeWhile fun t => Op.bytesLess t s).length
/-- All names of blocks, as they stand. -/
def nmsB (b : MB) : List Tx := b.2.2.map (·.2.1)
def nmsA (l : List MB) : List Tx := l.flatMap nmsB
/-- All fields' names, but the three, by their bytes. -/
def nmsT (l : List MB) : List Tx := (nmsA l).foldl insN []
theorem ins_len (out : List Tx) (s : Tx) : (insN out s).length ≤ out.length + 1 := by
  unfold insN
  split
  · omega
  · split
    · omega
    · rw [List.length_append, List.length_cons, List.length_take, List.length_drop]
      omega
theorem fold_len (q : List Tx) : ∀ out : List Tx, (q.foldl insN out).length ≤ out.length + q.length := by
  induction q with
  | nil => intro out; simp
  | cons s q ih =>
    intro out
    rw [List.foldl_cons, List.length_cons]
    have h1 := ih (insN out s)
    have h2 := ins_len out s
    omega
theorem nms_take {l : List MB} {i : Nat} (h : i < l.length) : nmsA (l.take (i + 1)) = nmsA (l.take i) ++ nmsB l[i] := by
  unfold nmsA
  rw [List.take_succ_eq_append_getElem h, List.flatMap_append]
  simp
theorem nms_len : ∀ q : List MB, (∀ b ∈ q, b.2.2.length ≤ 1000) → (nmsA q).length ≤ q.length * 1000
  | [], _ => by simp [nmsA]
  | b :: q, h => by
    have ih := nms_len q fun x hx => h x (by simp [hx])
    have h1 := h b (by simp)
    unfold nmsA at ih ⊢
    rw [List.flatMap_cons, List.length_append, List.length_cons, Nat.succ_mul]
    unfold nmsB at ih ⊢
    rw [List.length_map]
    omega
theorem fold_snoc (q : List Tx) (s : Tx) (out : List Tx) : (q ++ [s]).foldl insN out = insN (q.foldl insN out) s := by
  rw [List.foldl_append]
  rfl
/-- How far the names below one go. -/
theorem tw_end {p : Tx → Bool} : ∀ (out : List Tx) (a : Nat), (∀ t ∈ out.take a, p t = true) → a ≤ out.length → (∀ h : a < out.length, p out[a] = false) → (out.takeWhile p).length = a
  | [], a, _, ha, _ => by
    have : a = 0 := by simpa using ha
    subst this
    rfl
  | t :: out, 0, _, _, h => by
    have : p t = false := h (by simp)
    rw [List.takeWhile_cons, this]
    rfl
  | t :: out, a + 1, h1, ha, h => by
    have ht : p t = true := h1 t (by simp)
    rw [List.takeWhile_cons, ht]
    simp only [if_true, List.length_cons]
    rw [tw_end out a (fun x hx => h1 x (by simp [hx])) (by simpa using ha) (fun hh => h (by simpa using hh))]
theorem three_any (k : Tx) : three k = ((str k).toList == nmN || (str k).toList == nmU || (str k).toList == nmR) := by
  rw [str_toList]
  rfl
theorem infoStr : (Tryz.prog.info? 9).map (fun i => (i.zero, i.size, i.bytes)) = some (some (.string .empty), 1, 16) := by kernel_rfl
theorem below_alO {w w' : World} (h : Below w.heap.size w w') (o : Obj) : Below w.heap.size w (w'.alloc o) := h.alloc h.size o
theorem rd_oneS (W : World) (S : ByteArray) : Rd (W.alloc (.cells #[.string S] 9)) (some ⟨W.heap.size, 0, none⟩) [.string S] := Rd.block (MapKept.heap_alloc W (.cells #[.string S] 9)).1
theorem one_txC (L : List Tx) : ∀ u ∈ L.map txC, u.oneCell' = true := by
  intro u hu
  obtain ⟨t, _, rfl⟩ := List.mem_map.1 hu
  rfl
set_option maxHeartbeats 4000000 in
set_option maxRecDepth 100000 in
theorem refNames_any (v : Value) (l : List MB) (w : World) (hl : l.length ≤ 1000) (hf : ∀ b ∈ l, b.2.2.length ≤ 1000) (hv : RowB w v l) :
    Calls Tryz.prog 23 #[v] w fun e w' => ∃ u, e = .returned u ∧ RowS w' u (nmsT l) ∧ Below w.heap.size w w' := by
  obtain ⟨A, c, rfl, hr⟩ := hv.form
  obtain ⟨n, hn⟩ : ∃ n, l.length = n := ⟨_, rfl⟩
  rw [hn] at hr hl ⊢
  have HR := Lib.hid (And.intro hr (And.intro hn hf))
  have hz : ∀ i, (nmsA (l.take i)).length ≤ i * 1000 := fun i => by
    have h1 := nms_len (l.take i) (fun b hb => hf b (List.mem_of_mem_take hb))
    rw [List.length_take] at h1
    have h2 : min i l.length * 1000 ≤ i * 1000 := Nat.mul_le_mul_right _ (Nat.min_le_left _ _)
    omega
  have HZ := Lib.hid hz
  clear hr hv hn hf hz
  go_enter Tryz.func23, Tryz.ntmps23
  go_wp2_with fail
  go_loopw [3, 4] (fun o iv wr => ∃ (i : Nat) (N : List Tx), iv = .int .i64 i ∧ i ≤ n ∧ (nmsA (l.take i)).foldl insN [] = N ∧ RowS wr o N ∧ Below w.heap.size w wr) (fun _ iv _ => n - (intOf iv).toNat)
  case atStart => exact ⟨0, [], rfl, Nat.zero_le _, rfl, RowS.none _, Below.refl _ _⟩
  case round =>
    obtain ⟨i, N, rfl, hi, hN, hrow, hb⟩ := hrel
    have HB := Lib.hid (And.intro hN (And.intro hrow hb))
    rcases Nat.lt_or_ge i n with hlt | hge
    · have q0 : (0 : Int) ≤ i := by omega
      have q1 : (i : Int) < n := by omega
      have hil : i < l.length := by rw [HR.out.2.1]; exact hlt
      obtain ⟨ad, X, vF, rfl, hX, k0, k1, k2, hrf⟩ := (HR.out.1.below hb).parts.2.2.2 i hlt l[i] (List.getElem?_eq_getElem hil)
      obtain ⟨b, hbk⟩ : ∃ b, l[i] = b := ⟨_, rfl⟩
      have hfl := HR.out.2.2 l[i] (List.getElem_mem hil)
      have hnt := nms_take hil
      rw [hbk] at hrf hfl hnt
      obtain ⟨AF, cF, rfl, hrF⟩ := hrf.form
      obtain ⟨m, hm⟩ : ∃ m, b.2.2.length = m := ⟨_, rfl⟩
      rw [hm] at k2 hrF hfl
      have HF := Lib.hid (And.intro hrF (And.intro hm hnt))
      obtain ⟨w2, hw2⟩ : ∃ w2, w2 = wr := ⟨_, rfl⟩
      subst hw2
      have HC2 : Hid (∀ W, Below w2.heap.size w2 W → W.cell? { block := X.block, off := X.off + 2 } = some (.slice AF m cF)) := fun W h => cell9_below k2 h
      clear hN hrow hb hbk hnt hrf hrF hm hil k0 k1
      go_wp2_with fail
      go_loopw [3, 5] (fun o kv wr => ∃ (k : Nat) (N2 : List Tx), kv = .int .i64 k ∧ k ≤ m ∧ (nmsA (l.take i) ++ (nmsB b).take k).foldl insN [] = N2 ∧ RowS wr o N2 ∧ Below w2.heap.size w2 wr) (fun _ kv _ => m - (intOf kv).toNat)
      case atStart => exact ⟨0, N, rfl, Nat.zero_le _, by rw [List.take_zero, List.append_nil]; exact HB.out.1, HB.out.2.1, Below.refl _ _⟩
      case round =>
        obtain ⟨k, N2, rfl, hk, hN2, hrow2, hb2⟩ := hrel
        have HK := Lib.hid (And.intro hN2 (And.intro hrow2 hb2))
        have c2 := HC2.out _ hb2
        rcases Nat.lt_or_ge k m with hlk | hgk
        · have q2 : (0 : Int) ≤ k := by omega
          have q3 : (k : Int) < m := by omega
          have hkl : k < b.2.2.length := by rw [HF.out.2.1]; exact hlk
          obtain ⟨adF, Y, rfl, hY, g0, g1, g2⟩ := (HF.out.1.below hb2).parts.2.2.2 k hlk b.2.2[k] (List.getElem?_eq_getElem hkl)
          obtain ⟨s, hs⟩ : ∃ s, b.2.2[k].2.1 = s := ⟨_, rfl⟩
          rw [hs] at g1
          have hst : (nmsB b).take (k + 1) = (nmsB b).take k ++ [s] := by
            have hk2 : k < (nmsB b).length := by unfold nmsB; rw [List.length_map]; exact hkl
            rw [List.take_succ_eq_append_getElem hk2]
            congr 2
            rw [← hs]
            simp [nmsB]
          have h3 := three_any s
          obtain ⟨S, hS⟩ : ∃ S, str s = S := ⟨_, rfl⟩
          rw [hS] at g1 h3
          have HS := Lib.hid (And.intro hS (And.intro h3 hst))
          obtain ⟨A3, c3, rfl, hc3, hc4, hrd3⟩ := hrow2
          obtain ⟨p, hp⟩ : ∃ p, N2.length = p := ⟨_, rfl⟩
          rw [hp] at hc3 ⊢
          have HN := Lib.hid (And.intro hrd3 (And.intro hp hc3))
          have hp2 : p ≤ 1001000 := by
            have h1 := fold_len (nmsA (l.take i) ++ (nmsB b).take k) []
            rw [HK.out.1, hp, List.length_append, List.length_take, List.length_nil] at h1
            have h2 := HZ.out i
            omega
          obtain ⟨w3, hw3⟩ : ∃ w3, w3 = wr := ⟨_, rfl⟩
          subst hw3
          clear hN2 hb2 hkl hs hst hS hrd3 hp g0 g2
          have hways : (three s = true ∧ ((S.toList == nmN) = true ∨ ((S.toList == nmN) = false ∧ (S.toList == nmU) = true) ∨ ((S.toList == nmN) = false ∧ (S.toList == nmU) = false ∧ (S.toList == nmR) = true))) ∨ (three s = false ∧ (S.toList == nmN) = false ∧ (S.toList == nmU) = false ∧ (S.toList == nmR) = false) := by
            rw [h3]
            cases e1 : (S.toList == nmN) <;> cases e2 : (S.toList == nmU) <;> cases e3 : (S.toList == nmR) <;> simp
          clear h3
          rcases hways with ⟨hi3, hw⟩ | ⟨hi3, e1, e2, e3⟩
          · have HI3 := Lib.hid hi3
            clear hi3
            rcases hw with e1 | ⟨e1, e2⟩ | ⟨e1, e2, e3⟩
            all_goals
              go_wp2_with fail
              go_loopw [7] (fun av wr => ∃ a : Nat, av = .int .i64 a ∧ a ≤ p ∧ (∀ t ∈ N2.take a, Op.bytesLess t s = true) ∧ wr = w3) (fun av _ => p - (intOf av).toNat)
              case atStart => exact ⟨0, rfl, Nat.zero_le _, fun t ht => by simp at ht, rfl⟩
              case round =>
                obtain ⟨a, rfl, ha, hless, rfl⟩ := hrel
                have HE : Hid ((nmsA (l.take i) ++ (nmsB b).take (k + 1)).foldl insN [] = N2) := by
                  unfold Hid
                  rw [HS.out.2.2, ← List.append_assoc, fold_snoc, HK.out.1, insN, if_pos HI3.out]
                rcases Nat.lt_or_ge a p with hla | hga
                · skip
                  have q5 : (a : Int) < p := by omega
                  have q6 : (0 : Int) ≤ a := by omega
                  have hap : a < N2.length := by rw [HN.out.2.1]; exact hla
                  have hqm : a < (N2.map txC).length := by rw [List.length_map]; exact hap
                  obtain ⟨adN, rfl, cq⟩ := HN.out.1.at_ hqm
                  have hx : (N2.map txC)[a] = .string (str N2[a]) := by rw [List.getElem_map]; rfl
                  rw [hx] at cq
                  have hTL : (str N2[a]).toList = N2[a] := str_toList _
                  have hSL : S.toList = s := by rw [← HS.out.1, str_toList]
                  obtain ⟨T, hT⟩ : ∃ x, str N2[a] = x := ⟨_, rfl⟩
                  rw [hT] at cq hTL
                  clear hx hqm hT
                  cases hbl : Op.bytesLess T.toList S.toList
                  · clear hTL hSL hless hap
                    go_wp2_with fail
                    exact ⟨⟨k + 1, N2, by go_num, hlk, HE.out, by have h := HK.out.2.1; rwa [HN.out.2.1] at h, HK.out.2.2⟩, by simp [intOf]; omega⟩
                  · have HL : Hid (∀ t ∈ N2.take (a + 1), Op.bytesLess t s = true) := fun t ht => by
                      rw [List.take_succ_eq_append_getElem hap] at ht
                      rcases List.mem_append.1 ht with h | h
                      · exact hless t h
                      · rw [List.mem_singleton.1 h, ← hTL, ← hSL]; exact hbl
                    clear hTL hSL hless hap
                    go_wp2_with fail
                    exact ⟨⟨a + 1, by go_num, hla, HL.out, trivial⟩, by simp [intOf]; omega⟩
                · obtain rfl : a = p := by omega
                  have q5 : ¬ ((a : Int) < a) := by omega
                  clear hless
                  go_wp2_with fail
                  exact ⟨⟨k + 1, N2, by go_num, hlk, HE.out, by have h := HK.out.2.1; rwa [HN.out.2.1] at h, HK.out.2.2⟩, by simp [intOf]; omega⟩
          · have HI3 := Lib.hid hi3
            clear hi3
            go_wp2_with fail
            go_loopw [7] (fun av wr => ∃ a : Nat, av = .int .i64 a ∧ a ≤ p ∧ (∀ t ∈ N2.take a, Op.bytesLess t s = true) ∧ wr = w3) (fun av _ => p - (intOf av).toNat)
            case atStart => exact ⟨0, rfl, Nat.zero_le _, fun t ht => by simp at ht, rfl⟩
            case round =>
              obtain ⟨a, rfl, ha, hless, rfl⟩ := hrel
              have hfold : (nmsA (l.take i) ++ (nmsB b).take (k + 1)).foldl insN [] = insN N2 s := by
                rw [HS.out.2.2, ← List.append_assoc, fold_snoc, HK.out.1]
              have HFo := Lib.hid hfold
              clear hfold
              rcases Nat.lt_or_ge a p with hla | hga
              case' inl =>
                have q5 : (a : Int) < p := by omega
                have q6 : (0 : Int) ≤ a := by omega
                have hap : a < N2.length := by rw [HN.out.2.1]; exact hla
                have hqm : a < (N2.map txC).length := by rw [List.length_map]; exact hap
                obtain ⟨adN, rfl, cq⟩ := HN.out.1.at_ hqm
                have hx : (N2.map txC)[a] = .string (str N2[a]) := by rw [List.getElem_map]; rfl
                rw [hx] at cq
                have hTL : (str N2[a]).toList = N2[a] := str_toList _
                have hSL : S.toList = s := by rw [← HS.out.1, str_toList]
                obtain ⟨T, hT⟩ : ∃ x, str N2[a] = x := ⟨_, rfl⟩
                rw [hT] at cq hTL
                clear hx hqm hT
                cases hbl : Op.bytesLess T.toList S.toList
                case' true =>
                  have HL : Hid (∀ t ∈ N2.take (a + 1), Op.bytesLess t s = true) := fun t ht => by
                    rw [List.take_succ_eq_append_getElem hap] at ht
                    rcases List.mem_append.1 ht with h | h
                    · exact hless t h
                    · rw [List.mem_singleton.1 h, ← hTL, ← hSL]; exact hbl
                  clear hTL hSL hless hap
                  go_wp2_with fail
                  exact ⟨⟨a + 1, by go_num, hla, HL.out, trivial⟩, by simp [intOf]; omega⟩
                have htw : (N2.takeWhile fun t => Op.bytesLess t s).length = a := tw_end N2 a hless (by rw [HN.out.2.1]; omega) (fun h => by rw [← hTL, ← hSL]; exact hbl)
                cases heq : (T.toList == S.toList)
                case' true =>
                  have HE : Hid ((nmsA (l.take i) ++ (nmsB b).take (k + 1)).foldl insN [] = N2) := by
                    unfold Hid
                    rw [HFo.out, insN, if_neg (by rw [HI3.out]; decide), htw, if_pos]
                    rw [List.getElem?_eq_getElem hap, ← hTL, ← hSL]
                    exact congrArg some (by simpa using heq)
                  clear hTL hSL hless hap htw
                  go_wp2_with fail
                  exact ⟨⟨k + 1, N2, by go_num, hlk, HE.out, by have h := HK.out.2.1; rwa [HN.out.2.1] at h, HK.out.2.2⟩, by simp [intOf]; omega⟩
                have HIn : Hid (insN N2 s = N2.take a ++ s :: N2.drop a) := by
                  unfold Hid
                  rw [insN, if_neg (by rw [HI3.out]; decide), htw, if_neg]
                  rw [List.getElem?_eq_getElem hap, ← hTL, ← hSL]
                  intro h
                  have h2 := Option.some.inj h
                  rw [h2] at heq
                  simp at heq
                clear hTL hSL hless hap htw
                obtain ⟨A1, C1, hs1, hA1⟩ := cutS_head (some adN) N2 p c3 a HN.out.2.1 (by omega) HN.out.2.2
                obtain ⟨A2, C2, hs2, hA2⟩ := cutS_tail (some adN) N2 p c3 a HN.out.2.1 (by omega) HN.out.2.2
                obtain ⟨r, hr⟩ : ∃ r, p - a = r := ⟨_, rfl⟩
                rw [hr] at hs2
                have HRa := Lib.hid (fun W (h : Below wr.heap.size wr W) => hA1 W (Rd.below HN.out.1 h))
                have HRb := Lib.hid (fun W (h : Below wr.heap.size wr W) => hA2 W (Rd.below HN.out.1 h))
                have HLn : Hid ((N2.take a).length = a ∧ (N2.drop a).length = r ∧ a + r ≤ 1001000) := by
                  refine ⟨by rw [List.length_take, HN.out.2.1]; omega, by rw [List.length_drop, HN.out.2.1]; exact hr, by omega⟩
                clear hA1 hA2 hr
                go_wp2_with fail
              case' inr =>
                obtain rfl : a = p := by omega
                have q5 : ¬ ((a : Int) < a) := by omega
                have htw : (N2.takeWhile fun t => Op.bytesLess t s).length = a := tw_end N2 a hless (by rw [HN.out.2.1]; exact Nat.le_refl _) (fun h => by rw [HN.out.2.1] at h; omega)
                have HIn : Hid (insN N2 s = N2.take a ++ s :: N2.drop a) := by
                  unfold Hid
                  rw [insN, if_neg (by rw [HI3.out]; decide), htw, if_neg]
                  rw [List.getElem?_eq_none (by rw [HN.out.2.1]; exact Nat.le_refl _)]
                  intro h
                  cases h
                clear hless htw
                obtain ⟨A1, C1, hs1, hA1⟩ := cutS_head A3 N2 a c3 a HN.out.2.1 (by omega) HN.out.2.2
                obtain ⟨A2, C2, hs2, hA2⟩ := cutS_tail A3 N2 a c3 a HN.out.2.1 (by omega) HN.out.2.2
                obtain ⟨r, hr⟩ : ∃ r, a - a = r := ⟨_, rfl⟩
                rw [hr] at hs2
                have HRa := Lib.hid (fun W (h : Below wr.heap.size wr W) => hA1 W (Rd.below HN.out.1 h))
                have HRb := Lib.hid (fun W (h : Below wr.heap.size wr W) => hA2 W (Rd.below HN.out.1 h))
                have HLn : Hid ((N2.take a).length = a ∧ (N2.drop a).length = r ∧ a + r ≤ 1001000) := by
                  refine ⟨by rw [List.length_take, HN.out.2.1]; omega, by rw [List.length_drop, HN.out.2.1]; exact hr, by omega⟩
                clear hA1 hA2 hr
                go_wp2_with fail
              all_goals
                have q7 : (0 : Int) ≤ a := by omega
                have hdr : Below wr.heap.size wr wr.drew := ⟨rfl, rfl, rfl, Nat.le_refl _, fun _ _ => rfl⟩
                have HDr := Lib.hid hdr
                clear hdr
                have hbI := HDr.out
                go_region_held3 (fun W => Below wr.heap.size wr W) (first | exact HDr.out | assumption | exact below_alO (by assumption) _) (first
                  | (refine step_appK (by rfl) (.tmp 74) (.tmp 77) _ (by rfl) Tryz.underlying71 infoStr rfl (by omega) wr.heap.size (.slice none 0 0) 0 [] (by rfl) (World.ownsRow_nil _ _ _ _) A1 a C1 ((N2.take a).map txC) (by rfl) (by rw [List.length_map, HLn.out.1, Nat.mul_one])
                       (by first | exact HRa.out _ hbI | exact HRa.out _ (below_alO hbI _)) (one_txC _) (by have := HLn.out.2.2; unfold maxLen; omega) (by have := HLn.out.2.2; omega) (by first | exact hbI.size | exact (below_alO hbI _).size) ?_
                     intro vN wN hoN hgN haN
                     have hbN : Below wr.heap.size wr wN := by
                       first
                       | exact hbI.grown hgN hbI.size (fun k hk => by simp [Value.ownBlock] at hk)
                       | exact (below_alO hbI _).grown hgN (below_alO hbI _).size (fun k hk => by simp [Value.ownBlock] at hk)
                     first
                     | have HRc := Lib.hid (show Rd wN (some ⟨wr.drew.heap.size, 0, none⟩) [.string S] from Rd.below (rd_oneS wr.drew S) ((Below.refl _ _).grown hgN (Nat.le_refl _) (fun k hk => by simp [Value.ownBlock] at hk)))
                     | skip
                     have HNN := Lib.hid hoN
                     clear hoN hgN haN)
                  | (refine step_appK (by rfl) (.tmp 78) (.tmp 80) _ (by rfl) Tryz.underlying71 infoStr rfl (by omega) wr.heap.size vN (0 + a) ([] ++ (N2.take a).map txC) (by rfl) (by first | exact HNN.out | exact HNN.out.alloc _) (some ⟨_, 0, none⟩) 1 1 [.string S] (by rfl) rfl
                       (by first | exact HRc.out | exact rd_oneS _ _) (by intro u hu; rw [List.mem_singleton.1 hu]; rfl) (by have := HLn.out.2.2; unfold maxLen; omega) (by have := HLn.out.2.2; omega) (by first | exact hbN.size | exact (below_alO hbN _).size) ?_
                     intro vE wE hoE hgE haE
                     have hbE : Below wr.heap.size wr wE := by
                       first
                       | exact hbN.grown hgE hbN.size (fun k hk => (HNN.out.lt k hk).1)
                       | exact (below_alO hbN _).grown hgE (below_alO hbN _).size (fun k hk => (HNN.out.lt k hk).1)
                     have HEE := Lib.hid hoE
                     clear hoE hgE haE)
                  | (refine step_appK (by rfl) (.tmp 81) (.tmp 84) _ (by rfl) Tryz.underlying71 infoStr rfl (by omega) wr.heap.size vE (0 + a + 1) ([] ++ (N2.take a).map txC ++ [.string S]) (by rfl) HEE.out A2 r C2 ((N2.drop a).map txC) (by rfl) (by rw [List.length_map, HLn.out.2.1, Nat.mul_one])
                       (HRb.out _ hbE) (one_txC _) (by have := HLn.out.2.2; unfold maxLen; omega) (by have := HLn.out.2.2; omega) hbE.size ?_
                     intro vZ wZ hoZ hgZ haZ
                     have hbZ : Below wr.heap.size wr wZ := hbE.grown hgZ hbE.size (fun k hk => (HEE.out.lt k hk).1)
                     have HZZ := Lib.hid hoZ
                     clear hoZ hgZ haZ))
                all_goals
                  have HZb := Lib.hid hbZ
                  have hrow : RowS wZ vZ (insN N2 s) := by
                    rw [HIn.out]
                    have h := HZZ.out
                    have e : ([] ++ (N2.take a).map txC ++ [Value.string S] ++ (N2.drop a).map txC) = (N2.take a ++ s :: N2.drop a).map txC := by
                      rw [List.nil_append, List.map_append, List.map_cons, ← HS.out.1]
                      simp [txC]
                    rw [e] at h
                    exact RowS.owned (by rw [List.length_append, List.length_cons, HLn.out.1, HLn.out.2.1]; omega) h
                  have HRow := Lib.hid hrow
                  clear hbI hbN hbE hbZ hs1 hs2 hrow
                  go_wp2_with fail
                  exact ⟨⟨k + 1, _, by go_num, hlk, HFo.out, HRow.out, HK.out.2.2.trans (HZb.out.mono HK.out.2.2.size)⟩, by simp [intOf]; omega⟩
        · obtain rfl : k = m := by omega
          have q3 : ¬ ((k : Int) < k) := by omega
          have HE : Hid ((nmsA (l.take (i + 1))).foldl insN [] = N2) := by
            unfold Hid
            rw [HF.out.2.2, ← HK.out.1]
            congr 2
            rw [List.take_of_length_le (by unfold nmsB; rw [List.length_map, HF.out.2.1]; exact Nat.le_refl _)]
          go_wp2_with fail
          exact ⟨⟨i + 1, N2, by go_num, hlt, HE.out, HK.out.2.1, HB.out.2.2.trans (HK.out.2.2.mono HB.out.2.2.size)⟩, by simp [intOf]; omega⟩
    · obtain rfl : i = n := by omega
      have q1 : ¬ ((i : Int) < i) := by omega
      have HE : Hid (nmsT l = N) := by
        unfold Hid nmsT
        rw [← HB.out.1, List.take_of_length_le (by rw [HR.out.2.1]; exact Nat.le_refl _)]
      obtain ⟨A5, c5, rfl, h51, h52, h53⟩ := hrow
      clear hN hb hge
      go_wp2_with fail
      go_ret
      rw [HE.out]
      exact ⟨_, rfl, HB.out.2.1, HB.out.2.2⟩
end Go.Proofs.YthnogakjaaopkaaGreatDoor
