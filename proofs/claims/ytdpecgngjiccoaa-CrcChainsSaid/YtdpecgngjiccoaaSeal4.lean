/- Contracts of sealing and opening, the program's and the reference's. Conditions: as stated. -/
import Derived.Test.YtdpecgngjiccoaaCrc4
import Derived.Laws.Rows
import Derived.Deep.RegionHeld3
import Derived.Deep.RegionLaw
import Derived.Lib.BufferWrite
import Derived.Stop.BytesEq
namespace Go.Proofs.Ytdpecgngjiccoaa
open Go.ChangeShapes Go.WideShapes Go.ChangeAt Go.RowKit
/-- The four bytes of a number, as values. -/
abbrev quad (n : Nat) : Array Value := #[.int .u8 ((n : Int) / 16777216), .int .u8 ((n : Int) / 65536 % 256), .int .u8 ((n : Int) / 256 % 256), .int .u8 ((n : Int) % 256)]
theorem quad_row {n : Nat} (hn : n < 4294967296) : quad n = (bytesV (be4 n)).toArray := by
  have h1 : (n : Int) / 16777216 = ((n / 16777216 % 256 : Nat) : Int) := by omega
  have h2 : (n : Int) / 65536 % 256 = ((n / 65536 % 256 : Nat) : Int) := by omega
  have h3 : (n : Int) / 256 % 256 = ((n / 256 % 256 : Nat) : Int) := by omega
  have h4 : (n : Int) % 256 = ((n % 256 : Nat) : Int) := by omega
  unfold quad
  rw [h1, h2, h3, h4]
  simp [bytesV, be4]
/-- 'string(b)' of bytes that fill the head of a block of the call's own. -/
theorem conv_row (w : World) (cs : Array Value) (l : List UInt8) (b n cap : Nat) (t : TypeId) (fr : Nat × Nat) (hcs : cs.toList.take n = bytesV l) (hn : n = l.length) (hb : b = w.heap.size) :
    (convert 30 9 (.slice (some ⟨b, 0, none⟩) n cap)).run Try.prog (w.alloc (.cells cs t fr)) = .ok (str l) (w.alloc (.cells cs t fr)) := by
  subst hn hb
  refine run_convert_bytes_back _ _ _ 5 _ cap l Try.underlying30 Try.underlying5 Try.underlying9 fun j hj => ?_
  have e : (⟨w.heap.size, 0, none⟩ : Addr).add j = ⟨w.heap.size, j, none⟩ := by unfold Addr.add; split <;> simp_all
  rw [e, World.cell?_alloc_mark]
  have h : (cs.toList.take l.length)[j]? = some (Value.int .u8 (l[j].toNat : Int)) := by rw [hcs]; simp [bytesV, hj]
  rw [List.getElem?_take, if_pos hj] at h
  simpa using h
set_option maxHeartbeats 400000 in
theorem sumBytes_any (l : List UInt8) (w : World) (hl : l.length ≤ 9223372036854775807) :
    Calls Try.prog 20 #[str l] w (RetV w (.agg (quad (crc l)))) := by
  have K := fun ww => sum_any l ww hl
  have hc := crc_lt l
  obtain ⟨n, hn⟩ : ∃ n, crc l = n := ⟨_, rfl⟩
  rw [hn] at K hc ⊢
  replace hn := Lib.hid hn
  go_enter Try.func20, Try.ntmps20
  go_wp2_with fail
  refine (K _).mono ?_
  rintro e w' ⟨rfl, rfl⟩
  clear K
  go_wp2
  exact bodyPost_ret (v := .agg (quad n)) (by simp [results, Try.results20, go_sem]) rfl ⟨rfl, (Below.refl _ _).alloc (Nat.le_refl _) _⟩
set_option maxHeartbeats 400000 in
theorem rseal_any (l : List UInt8) (w : World) (hl : l.length ≤ 100000) :
    Calls Try.prog 11 #[str l] w (RetV w (str (sealL l))) := by
  have K := rsum_any l w (by omega)
  have hc := crc_lt l
  obtain ⟨n, hn⟩ : ∃ n, crc l = n := ⟨_, rfl⟩
  rw [hn] at K hc
  have R := conv_row w (quad n) (be4 n) w.heap.size 4 4 5 (0, 0) (by rw [quad_row hc]; rfl) rfl rfl
  have A : ∀ ww : World, (Op.stringOp .add ⟨l.toArray⟩ ⟨(be4 n).toArray⟩).run Try.prog ww = .ok (.string ⟨(l ++ be4 n).toArray⟩) ww := fun ww => run_string_add_lists (P := Try.prog) ww l (be4 n) (by omega) (by rw [be4_length]; omega)
  have E := Lib.hid (show l ++ be4 n = sealL l by rw [sealL, hn])
  replace hn := Lib.hid hn
  go_enter Try.func11, Try.ntmps11
  go_wp2_with fail
  refine K.mono ?_
  rintro e w' ⟨rfl, rfl⟩
  clear K
  go_wp2
  go_ret
  rw [E.out]
  exact ⟨rfl, (Below.refl _ _).alloc (Nat.le_refl _) _⟩
set_option maxHeartbeats 400000 in
theorem seal_any (l : List UInt8) (w : World) (hl : l.length ≤ 100000) :
    Calls Try.prog 10 #[str l] w (RetV w (str (sealL l))) := by
  have K := sumBytes_any l w (by omega)
  have hc := crc_lt l
  obtain ⟨n, hn⟩ : ∃ n, crc l = n := ⟨_, rfl⟩
  rw [hn] at K hc
  have R := fun ww : World => conv_row ww (quad n) (be4 n) ww.heap.size 4 4 38 (0, 0) (by rw [quad_row hc]; rfl) rfl rfl
  have A : ∀ ww : World, (Op.stringOp .add ⟨l.toArray⟩ ⟨(be4 n).toArray⟩).run Try.prog ww = .ok (.string ⟨(l ++ be4 n).toArray⟩) ww := fun ww => run_string_add_lists (P := Try.prog) ww l (be4 n) (by omega) (by rw [be4_length]; omega)
  have E := Lib.hid (show l ++ be4 n = sealL l by rw [sealL, hn])
  replace hn := Lib.hid hn
  go_enter Try.func10, Try.ntmps10
  go_wp2_with fail
  refine K.mono ?_
  rintro e w' ⟨rfl, hb⟩
  clear K
  go_wp2
  go_ret
  rw [E.out]
  exact ⟨rfl, hb.alloc hb.size _⟩
theorem setRow_new (w : World) (cs ds : Array Value) (t : TypeId) : (w.alloc (.cells cs t)).drew.setRow w.heap.size ds = (w.alloc (.cells ds t)).drew := by
  have e : (w.heap.push (Obj.cells cs t)).modify w.heap.size (fun
      | .cells _ elem frozen => .cells ds elem frozen
      | o => o) = w.heap.push (Obj.cells ds t) := by
    apply Array.ext
    · simp
    · intro i h1 h2
      rw [Array.getElem_modify]
      by_cases h : w.heap.size = i
      · subst h; simp
      · rw [if_neg h, Array.getElem_push_lt (by simp at h2; omega), Array.getElem_push_lt (by simp at h2; omega)]
  show ({ (w.alloc (.cells cs t)).drew with heap := _ } : World) = _
  exact congrArg (fun h => ({ (w.alloc (.cells cs t)).drew with heap := h } : World)) e
/-- 'copy(b[:], s)' where b is a new array as long as s, as one step of a region that draws. -/
theorem step_copy_new {ops : Array Oper} {o : Oper} {a : Act} {w : World} {K : Act → World → Prop} {Q : Exit → Act → World → Prop} {E : Prop}
    (hg : o.guard = none) (d x : Operand) (hop : o.op = Op.call { callee := Callee.builtin Builtin.copy, args := #[d, x], argTypes := #[30, 9] })
    (n : Nat) (cur : Array Value) (t : TypeId) (q : List UInt8) (hd : a.eval d = .slice (some ⟨w.heap.size, 0, none⟩) n n) (hx : a.eval x = str q) (hq : q.length = n) (hc : cur.size = n)
    (hK : K (a.put o.dst (goInt n)) (w.alloc (.cells (bytesV q).toArray t)).drew) :
    if Region.wanted o (yielded ops a.tmps) = true then Oper.wp Try.prog o a (w.alloc (.cells cur t)).drew K Q else E := by
  have hw : Region.wanted o (yielded ops a.tmps) = true := by simp [Region.wanted, hg]
  rw [if_pos hw]
  have hsz : (sb q).size = n := by rw [sb_size]; exact hq
  have hrun := Lib.run_copy_row_string (P := Try.prog) (w.alloc (.cells cur t)).drew 30 9 o.type 5 w.heap.size 0 n n (sb q) cur t Try.underlying30 (by kernel_rfl) (heap_alloc_new w _) (by omega) (by omega)
  rw [setRow_new, hsz] at hrun
  have e : (List.take 0 cur.toList ++ Lib.byteCells (sb q).data.toList ++ List.drop (0 + n) cur.toList) = bytesV q := by
    rw [List.take_zero, List.nil_append, List.drop_of_length_le (by simp; omega), List.append_nil]
    rfl
  rw [e] at hrun
  unfold Oper.wp
  simp only [execOp, hop, resolve, invoke, builtin, Sem.run_bind, Sem.run_pure, Result.andThen_ok, List.map_toArray, List.map_cons, List.map_nil, hd, hx, hrun]
  exact hK
theorem run_neq_bytes (w : World) (xs ys : List UInt8) (hx : xs.length = 4) (hy : ys.length = 4) :
    (binOp .neq 38 (.agg (bytesV xs).toArray) (.agg (bytesV ys).toArray)).run Try.prog w = .ok (.bool (!(xs == ys))) w := by
  have h := run_equalIn_bytes (P := Try.prog) w 9998 38 5 4 Try.underlying38 Try.underlying5 (fun _ => by kernel_rfl) xs ys hx hy
  rw [run_neq_struct]
  show ((Op.equalIn 10000 38 (.agg (bytesV xs).toArray) (.agg (bytesV ys).toArray)).run Try.prog w).andThen _ = _
  rw [show (Op.equalIn 10000 38 (.agg (bytesV xs).toArray) (.agg (bytesV ys).toArray)).run Try.prog w = .ok (xs == ys) w from h]
  rfl
end Go.Proofs.Ytdpecgngjiccoaa
