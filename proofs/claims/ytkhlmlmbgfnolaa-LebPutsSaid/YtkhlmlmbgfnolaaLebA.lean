/- Contracts: the document's Number; leb's lay (bytes, a number's bytes, a text, in new memory). -/
import Derived.Test.YtkhlmlmbgfnolaaLen64
import Derived.Lib.AppendStr
namespace Go.Proofs.Ytkhlmlmbgfnolaa
open Go.RowKit

theorem elU8 : Elem Try.prog 22 5 (.int .u8 0) 1 := ⟨Try.underlying22, by kernel_rfl, rfl⟩
theorem b8_ofNat (n : Nat) : b8 (UInt8.ofNat n) = .int .u8 ((n : Int) % 256) := by simp [b8]
theorem bs_sing (n : Nat) (h : n < 256) : bs [UInt8.ofNat n] = [.int .u8 (n : Int)] := by
  simp only [bs, List.map_cons, List.map_nil, b8_ofNat]
  congr 2
  omega
theorem strCells_bs (s : ByteArray) : Lib.strCells s = bs s.toList := by
  rw [ByteArray.toList_eq]
  rfl
section
variable {P : Program} {w : World}
/-- append(v, s...), s a string. -/
theorem wpList_apps {ops : Array Oper} {rest : List Oper} {o : Oper} {a : Act} {Q : Exit → Act → World → Prop} (hgd : o.guard = none) (s x : Operand) (t u : TypeId)
    (ho : o.op = .call { callee := .builtin .append, args := #[s, x], argTypes := #[t, u] })
    {e : TypeId} (hE : Elem P t e (.int .u8 0) 1) (hu : P.underlying u = some .string) (base : Nat) (v : Value) (n : Nat) (xs : List Value) (hs : a.eval s = v) (hown : w.ownsRow base e 1 v n xs)
    (str : ByteArray) (hx : a.eval x = .string str) (h63 : n + str.size ≤ maxLen) (hbytes : n + str.size ≤ 140737488355328) (hbase : base ≤ w.heap.size)
    (h : ∀ v' w', w'.ownsRow base e 1 v' (n + str.size) (xs ++ bs str.toList) → w.grownBy w' v.ownBlock → wpList P ops Q rest (a.put o.dst v') w') : wpList P ops Q (o :: rest) a w :=
  wpList_plain hgd fun _ hK => by
    obtain ⟨i, hi, hz, hsz, hb⟩ := info_parts hE.info
    obtain ⟨v', w', hrun, h2, h3, _⟩ := Lib.run_append_own_string (P := P) w base t u o.type e i hE.ht hu hi hz hsz hb v n xs hown str h63 hbytes hbase
    rw [strCells_bs] at h2
    unfold Oper.wp execOp
    simp only [ho, resolve, invoke, builtin, Sem.run_bind, Sem.run_pure, Result.andThen_ok, List.map_toArray, List.map_cons, List.map_nil, hs, hx, hrun]
    exact hK _ _ (h v' w' h2 h3)
end

set_option maxRecDepth 100000 in
set_option maxHeartbeats 1000000 in
/-- The document's Number. -/
theorem number_n (v : Nat) (w : World) (hv : v < 18446744073709551616) :
    Calls Try.prog 14 #[.int .u64 v] w fun e w' => ∃ x, e = .returned x ∧ w'.ownsRow w.heap.size 5 1 x (dig v).length (bs (dig v)) ∧ Below w.heap.size w w' := by
  have h10 := Lib.hid (dig_len10 hv)
  go_enter Try.func14, Try.ntmps14
  go_wp2_with fail
  go_loopw [0, 3] (fun uu x wr => ∃ (u : Nat) (pre : List UInt8), uu = .int .u64 u ∧ u < 18446744073709551616 ∧ dig v = pre ++ dig u ∧ wr.ownsRow w.heap.size 5 1 x pre.length (bs pre) ∧ Below w.heap.size w wr) (fun uu _ _ => (intOf uu).toNat)
  case atStart => exact ⟨v, [], rfl, hv, rfl, World.ownsRow_nil _ _ _ _, Below.refl _ _⟩
  case round =>
    obtain ⟨u, pre, rfl, hu, hd, hown, hb⟩ := hrel
    have hbs := hb.size
    have HO := Lib.hid hown
    have HB := Lib.hid hb
    have hpl : pre.length + 1 ≤ 10 := by
      have h1 := h10.out
      have h2 := dig_pos u
      rw [hd, List.length_append] at h1
      omega
    have HD := Lib.hid hd
    clear hown hb hd
    rcases Nat.lt_or_ge u 128 with h | h
    · have HX := Lib.hid (bs_sing u (by omega))
      go_wp2_with (first
        | (at_builtin
           refine wpList_app rfl (.tmp 15) (.tmp 18) _ rfl elU8 w.heap.size _ pre.length (bs pre) rfl (HO.out.alloc _) _ 1 1 (bs [UInt8.ofNat u]) rfl rfl ?rd (bs_one _) (by unfold maxLen; omega) (by omega) (by simp; omega) ?_
           case rd =>
             rw [HX.out]
             exact Rd.block (cs := #[.int .u8 (u : Int)]) (heap_alloc_new _ _)
           intro v3 w3 hown3 hg3 hat3
           have HO3 := Lib.hid hown3
           have HB3 := Lib.hid ((HB.out.alloc hbs (.cells #[.int .u8 (u : Int)] 5)).grown hg3 (by simp; omega) (fun j hj => owns_block HO.out j hj))
           clear hown3 hg3 hat3))
      go_ret
      refine ⟨_, rfl, ?_, HB3.out⟩
      have h := HO3.out
      rw [← bs_append] at h
      rw [HD.out, dig_lt (by omega), List.length_append]
      exact h
    · have HX := Lib.hid (bs_sing (u % 128 + 128) (by omega))
      go_wp2_with (first
        | (at_builtin
           refine wpList_app rfl (.tmp 6) (.tmp 11) _ rfl elU8 w.heap.size _ pre.length (bs pre) rfl (HO.out.alloc _) _ 1 1 (bs [UInt8.ofNat (u % 128 + 128)]) rfl rfl ?rd (bs_one _) (by unfold maxLen; omega) (by omega) (by simp; omega) ?_
           case rd =>
             rw [HX.out]
             exact Rd.block (cs := #[.int .u8 ((u % 128 + 128 : Nat) : Int)]) (heap_alloc_new _ _)
           intro v3 w3 hown3 hg3 hat3
           have HO3 := Lib.hid hown3
           have HB3 := Lib.hid ((HB.out.alloc hbs (.cells #[.int .u8 ((u % 128 + 128 : Nat) : Int)] 5)).grown hg3 (by simp; omega) (fun j hj => owns_block HO.out j hj))
           clear hown3 hg3 hat3))
      go_roundw
      case rel =>
        refine ⟨u / 128, pre ++ [UInt8.ofNat (u % 128 + 128)], by go_num, by omega, ?_, ?_, HB3.out⟩
        · rw [HD.out, dig_ge h, List.append_assoc]; rfl
        · rw [bs_append, List.length_append]; exact HO3.out
      case measure => simp [intOf]; omega

set_option maxRecDepth 100000 in
set_option maxHeartbeats 1000000 in
/-- lay: bytes, a number's bytes, a text. -/
theorem lay_n (A : Option Addr) (n c : Nat) (l : List UInt8) (v : Nat) (s : ByteArray) (w : World) (hn : l.length = n) (hr : Rd w A (bs l)) (hv : v < 18446744073709551616) (hl : n ≤ 1000000) (hs : s.size ≤ 1000000) :
    Calls Try.prog 13 #[.slice A n c, .int .u64 v, .string s] w fun e w' => ∃ x, e = .returned x ∧ w'.ownsRow w.heap.size 5 1 x (n + (dig v).length + s.size) (bs (l ++ dig v ++ s.toList)) ∧ Below w.heap.size w w' := by
  have h10 := dig_len10 hv
  have HR := Lib.hid hr
  have HN := Lib.hid hn
  clear hr hn
  obtain ⟨d, hd⟩ : ∃ d, (dig v).length = d := ⟨_, rfl⟩
  have hd1 := dig_pos v
  rw [hd] at h10 hd1 ⊢
  have HD := Lib.hid hd
  clear hd
  go_enter Try.func13, Try.ntmps13
  go_wp2_with fail
  refine (size_n v w hv).mono ?_
  rintro e w' ⟨he, rfl⟩
  rw [HD.out] at he
  subst he
  have hmk : ∀ W : World, (Instr.makeSlice 22 (.int .i64 0) (.int .i64 ((n : Int) + (d : Int) + (s.size : Int)))).run Try.prog W = .ok (.slice (some ⟨W.heap.size, 0, none⟩) 0 (n + d + s.size)) (W.alloc (.cells (madeCells #[.int .u8 0] (n + d + s.size)) 5)) := fun W =>
    run_mk elU8 0 ((n : Int) + (d : Int) + (s.size : Int)) (by omega) (by omega) (by omega) (by omega) W
  go_wp2_with (first
    | (at_builtin
       refine wpList_app rfl (.tmp 19) (.tmp 20) _ rfl elU8 w.heap.size (.slice (some ⟨w.heap.size, 0, none⟩) 0 (n + d + s.size)) 0 [] rfl ?own A n c (bs l) rfl (by rw [bs_length]; exact HN.out) (HR.out.alloc _) (bs_one l) (by unfold maxLen; omega) (by omega) (by simp) ?_
       case own => exact owns_mk _ _ _ rfl (Nat.le_refl _) (by unfold maxLen; omega) (by simp [size_madeCells])
       intro v2 w2 hown2 hg2 hat2
       have HO2 : Hid (w2.ownsRow w.heap.size 5 1 v2 (n + 0) (bs (l ++ []))) := by unfold Hid; simpa using hown2
       have HB2 := Lib.hid ((((Below.refl w.heap.size w).alloc (Nat.le_refl _) (.cells (madeCells #[.int .u8 0] (n + d + s.size)) 5))).grown hg2 (by simp) (fun k hk => by simp only [Value.ownBlock, Option.some.injEq] at hk; omega))
       clear hown2 hg2 hat2))
  clear hmk
  go_loopw [1, 8, 24] (fun uu x i wr => ∃ (k u : Nat) (pre : List UInt8), i = .int .i64 k ∧ uu = .int .u64 u ∧ u < 18446744073709551616 ∧ pre.length = k ∧ k < d ∧ dig v = pre ++ dig u ∧ wr.ownsRow w.heap.size 5 1 x (n + k) (bs (l ++ pre)) ∧ Below w.heap.size w wr) (fun _ _ i _ => d - (intOf i).toNat)
  case atStart => exact ⟨0, v, [], rfl, rfl, hv, rfl, by omega, rfl, HO2.out, HB2.out⟩
  case round =>
    obtain ⟨k, u, pre, rfl, rfl, hu, hpl, hk, hd, hown, hb⟩ := hrel
    have hbs := hb.size
    clear HO2 HB2
    have HO := Lib.hid hown
    have HB := Lib.hid hb
    have hdu : (dig u).length + k = d := by
      have h1 := HD.out
      rw [hd, List.length_append, hpl] at h1
      omega
    have HDV := Lib.hid hd
    have HPL := Lib.hid hpl
    clear hown hb hd hpl
    have hone := dig_one u
    by_cases hk1 : (k : Int) < (d : Int) - 1
    · have h : 128 ≤ u := by
        rcases Nat.lt_or_ge u 128 with h | h
        · have := hone.2 h; omega
        · exact h
      have HX := Lib.hid (bs_sing (u % 128 + 128) (by omega))
      clear hone hdu
      go_wp2_with (first
        | (at_builtin
           refine wpList_app rfl (.tmp 26) (.tmp 31) _ rfl elU8 w.heap.size _ (n + k) (bs (l ++ pre)) rfl (HO.out.alloc _) _ 1 1 (bs [UInt8.ofNat (u % 128 + 128)]) rfl rfl ?rd (bs_one _) (by unfold maxLen; omega) (by omega) (by simp; omega) ?_
           case rd =>
             rw [HX.out]
             exact Rd.block (cs := #[.int .u8 ((u % 128 + 128 : Nat) : Int)]) (heap_alloc_new _ _)
           intro v3 w3 hown3 hg3 hat3
           have HO3 := Lib.hid hown3
           have HB3 := Lib.hid ((HB.out.alloc hbs (.cells #[.int .u8 ((u % 128 + 128 : Nat) : Int)] 5)).grown hg3 (by simp; omega) (fun j hj => owns_block HO.out j hj))
           clear hown3 hg3 hat3))
      go_roundw
      case rel =>
        refine ⟨k + 1, u / 128, pre ++ [UInt8.ofNat (u % 128 + 128)], by go_num, by go_num, by omega, by rw [List.length_append, HPL.out]; rfl, by omega, ?_, ?_, HB3.out⟩
        · rw [HDV.out, dig_ge h, List.append_assoc]; rfl
        · rw [← List.append_assoc, bs_append (l ++ pre)]; exact HO3.out
      case measure => simp [intOf]; omega
    · have h : u < 128 := hone.1 (by omega)
      have HX := Lib.hid (bs_sing u (by omega))
      have hkd : k + 1 = d := by omega
      clear hone hdu
      go_wp2_with (first
        | (at_builtin
           refine wpList_app rfl (.tmp 36) (.tmp 39) _ rfl elU8 w.heap.size _ (n + k) (bs (l ++ pre)) rfl (HO.out.alloc _) _ 1 1 (bs [UInt8.ofNat u]) rfl rfl ?rd (bs_one _) (by unfold maxLen; omega) (by omega) (by simp; omega) ?_
           case rd =>
             rw [HX.out]
             exact Rd.block (cs := #[.int .u8 (u : Int)]) (heap_alloc_new _ _)
           intro v3 w3 hown3 hg3 hat3
           have HB3 := Lib.hid ((HB.out.alloc hbs (.cells #[.int .u8 (u : Int)] 5)).grown hg3 (by simp; omega) (fun j hj => owns_block HO.out j hj))
           have HO3 := Lib.hid hown3
           have hbs3 := HB3.out.size
           clear hown3 hg3 hat3)
        | (at_builtin
           refine wpList_apps rfl (.tmp 41) (.tmp 42) _ _ rfl elU8 Try.underlying9 w.heap.size _ (n + k + 1) (bs (l ++ pre) ++ bs [UInt8.ofNat u]) rfl HO3.out s rfl (by unfold maxLen; omega) (by omega) hbs3 ?_
           intro v4 w4 hown4 hg4
           have HO4 := Lib.hid hown4
           have HB4 := Lib.hid (HB3.out.grown hg4 hbs3 (fun j hj => owns_block HO3.out j hj))
           clear hown4 hg4))
      go_ret
      refine ⟨_, rfl, ?_, HB4.out⟩
      have h4 := HO4.out
      rw [← bs_append, ← bs_append, List.append_assoc l pre, ← dig_lt h, ← HDV.out, List.append_assoc l (dig v)] at h4
      rw [← hkd]
      exact h4
end Go.Proofs.Ytkhlmlmbgfnolaa
