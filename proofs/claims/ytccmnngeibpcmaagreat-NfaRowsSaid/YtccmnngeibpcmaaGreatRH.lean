/-
  Terms and comparisons by ==.
-/
import Derived.Test.YtccmnngeibpcmaaGreatRG
import Derived.Laws.StructEq
namespace Go.Proofs.YtccmnngeibpcmaaGreat.Tree
open Go.ChangeShapes Go.WideShapes Go.ChangeAt Go.RowKit
set_option linter.unusedVariables false
set_option linter.unusedSimpArgs false
attribute [local go_sem] Oper.semAt_some
theorem tm_eq (d : Nat) (a b : Tm) (w : World) : (Op.equalIn (d + 2) 93 (tmV a) (tmV b)).run Tryz.prog w = .ok (decide (a = b)) w := by
  obtain ⟨k, n, s, r⟩ := a
  obtain ⟨k', n', s', r'⟩ := b
  rw [run_equalIn_struct w (d + 1) 93 _ _ (by kernel_rfl) (by kernel_rfl)]
  have hl : (Tryz.prog.fieldsOf 93).toList = [(Tryz.prog.fieldsOf 93).toList[0]!, (Tryz.prog.fieldsOf 93).toList[1]!, (Tryz.prog.fieldsOf 93).toList[2]!, (Tryz.prog.fieldsOf 93).toList[3]!] := by kernel_rfl
  have t0 : ((Tryz.prog.fieldsOf 93).toList[0]!).type = 5 := by kernel_rfl
  have t1 : ((Tryz.prog.fieldsOf 93).toList[1]!).type = 3 := by kernel_rfl
  have t2 : ((Tryz.prog.fieldsOf 93).toList[2]!).type = 3 := by kernel_rfl
  have t3 : ((Tryz.prog.fieldsOf 93).toList[3]!).type = 3 := by kernel_rfl
  have o0 : ((Tryz.prog.fieldsOf 93).toList[0]!).offset = 0 := by kernel_rfl
  have o1 : ((Tryz.prog.fieldsOf 93).toList[1]!).offset = 1 := by kernel_rfl
  have o2 : ((Tryz.prog.fieldsOf 93).toList[2]!).offset = 2 := by kernel_rfl
  have o3 : ((Tryz.prog.fieldsOf 93).toList[3]!).offset = 3 := by kernel_rfl
  have n0 : ((Tryz.prog.fieldsOf 93).toList[0]!).name ≠ "_" := of_decide_eq_true (by kernel_rfl)
  have n1 : ((Tryz.prog.fieldsOf 93).toList[1]!).name ≠ "_" := of_decide_eq_true (by kernel_rfl)
  have n2 : ((Tryz.prog.fieldsOf 93).toList[2]!).name ≠ "_" := of_decide_eq_true (by kernel_rfl)
  have n3 : ((Tryz.prog.fieldsOf 93).toList[3]!).name ≠ "_" := of_decide_eq_true (by kernel_rfl)
  have p0 : ∀ k n s r w, (part 5 #[Value.int .u8 k, .int .i64 n, .int .i64 s, .int .i64 r] 0).run Tryz.prog w = .ok (.int .u8 k) w := by intros; kernel_rfl
  have p1 : ∀ k n s r w, (part 3 #[Value.int .u8 k, .int .i64 n, .int .i64 s, .int .i64 r] 1).run Tryz.prog w = .ok (.int .i64 n) w := by intros; kernel_rfl
  have p2 : ∀ k n s r w, (part 3 #[Value.int .u8 k, .int .i64 n, .int .i64 s, .int .i64 r] 2).run Tryz.prog w = .ok (.int .i64 s) w := by intros; kernel_rfl
  have p3 : ∀ k n s r w, (part 3 #[Value.int .u8 k, .int .i64 n, .int .i64 s, .int .i64 r] 3).run Tryz.prog w = .ok (.int .i64 r) w := by intros; kernel_rfl
  rw [hl]
  generalize (Tryz.prog.fieldsOf 93).toList[0]! = f0 at *
  generalize (Tryz.prog.fieldsOf 93).toList[1]! = f1 at *
  generalize (Tryz.prog.fieldsOf 93).toList[2]! = f2 at *
  generalize (Tryz.prog.fieldsOf 93).toList[3]! = f3 at *
  clear hl
  have e5 : ∀ a b w, (Op.equalIn (d + 1) 5 (.int .u8 a) (.int .u8 b)).run Tryz.prog w = .ok (a == b) w := fun a b w => run_equalIn_int w d 5 _ .u8 a b (by kernel_rfl)
  have e3 : ∀ a b w, (Op.equalIn (d + 1) 3 (.int .i64 a) (.int .i64 b)).run Tryz.prog w = .ok (a == b) w := fun a b w => run_equalIn_int w d 3 _ .i64 a b (by kernel_rfl)
  simp only [Op.eqFields, n0, n1, n2, n3, t0, t1, t2, t3, o0, o1, o2, o3, ne_eq, not_false_eq_true, if_true, Sem.run_bind, p0, p1, p2, p3, e5, e3, Result.andThen_ok, Sem.run_ite, Sem.run_pure]
  by_cases h0 : k = k' <;> by_cases h1 : n = n' <;> by_cases h2 : s = s' <;> by_cases h3 : r = r' <;> simp [h0, h1, h2, h3]
theorem cp_eq (d : Nat) (a b : Cp) (w : World) : (Op.equalIn (d + 3) 95 (cpV a) (cpV b)).run Tryz.prog w = .ok (decide (a = b)) w := by
  obtain ⟨op, l, r⟩ := a
  obtain ⟨op', l', r'⟩ := b
  rw [run_equalIn_struct w (d + 2) 95 _ _ (by kernel_rfl) (by kernel_rfl)]
  have hl : (Tryz.prog.fieldsOf 95).toList = [(Tryz.prog.fieldsOf 95).toList[0]!, (Tryz.prog.fieldsOf 95).toList[1]!, (Tryz.prog.fieldsOf 95).toList[2]!] := by kernel_rfl
  have t0 : ((Tryz.prog.fieldsOf 95).toList[0]!).type = 5 := by kernel_rfl
  have t1 : ((Tryz.prog.fieldsOf 95).toList[1]!).type = 93 := by kernel_rfl
  have t2 : ((Tryz.prog.fieldsOf 95).toList[2]!).type = 93 := by kernel_rfl
  have o0 : ((Tryz.prog.fieldsOf 95).toList[0]!).offset = 0 := by kernel_rfl
  have o1 : ((Tryz.prog.fieldsOf 95).toList[1]!).offset = 1 := by kernel_rfl
  have o2 : ((Tryz.prog.fieldsOf 95).toList[2]!).offset = 5 := by kernel_rfl
  have n0 : ((Tryz.prog.fieldsOf 95).toList[0]!).name ≠ "_" := of_decide_eq_true (by kernel_rfl)
  have n1 : ((Tryz.prog.fieldsOf 95).toList[1]!).name ≠ "_" := of_decide_eq_true (by kernel_rfl)
  have n2 : ((Tryz.prog.fieldsOf 95).toList[2]!).name ≠ "_" := of_decide_eq_true (by kernel_rfl)
  have p0 : ∀ op lk ln ls lr rk rn rs rr w, (part 5 #[Value.int .u8 op, .int .u8 lk, .int .i64 ln, .int .i64 ls, .int .i64 lr, .int .u8 rk, .int .i64 rn, .int .i64 rs, .int .i64 rr] 0).run Tryz.prog w = .ok (.int .u8 op) w := by intros; kernel_rfl
  have p1 : ∀ op lk ln ls lr rk rn rs rr w, (part 93 #[Value.int .u8 op, .int .u8 lk, .int .i64 ln, .int .i64 ls, .int .i64 lr, .int .u8 rk, .int .i64 rn, .int .i64 rs, .int .i64 rr] 1).run Tryz.prog w = .ok (.agg #[.int .u8 lk, .int .i64 ln, .int .i64 ls, .int .i64 lr]) w := by intros; kernel_rfl
  have p2 : ∀ op lk ln ls lr rk rn rs rr w, (part 93 #[Value.int .u8 op, .int .u8 lk, .int .i64 ln, .int .i64 ls, .int .i64 lr, .int .u8 rk, .int .i64 rn, .int .i64 rs, .int .i64 rr] 5).run Tryz.prog w = .ok (.agg #[.int .u8 rk, .int .i64 rn, .int .i64 rs, .int .i64 rr]) w := by intros; kernel_rfl
  rw [hl]
  generalize (Tryz.prog.fieldsOf 95).toList[0]! = f0 at *
  generalize (Tryz.prog.fieldsOf 95).toList[1]! = f1 at *
  generalize (Tryz.prog.fieldsOf 95).toList[2]! = f2 at *
  clear hl
  have e5 : ∀ a b w, (Op.equalIn (d + 2) 5 (.int .u8 a) (.int .u8 b)).run Tryz.prog w = .ok (a == b) w := fun a b w => run_equalIn_int w (d + 1) 5 _ .u8 a b (by kernel_rfl)
  have e26 : ∀ a b w, (Op.equalIn (d + 2) 93 (tmV a) (tmV b)).run Tryz.prog w = .ok (decide (a = b)) w := fun a b w => tm_eq d a b w
  simp only [Op.eqFields, n0, n1, n2, t0, t1, t2, o0, o1, o2, ne_eq, not_false_eq_true, if_true, Sem.run_bind, p0, p1, p2, e5, e26, Result.andThen_ok, Sem.run_ite, Sem.run_pure]
  by_cases h0 : op = op' <;> by_cases h1 : l = l' <;> by_cases h2 : r = r' <;> simp [h0, h1, h2]
theorem tm_eql (a b : Tm) (w : World) : (binOp .eql 93 (tmV a) (tmV b)).run Tryz.prog w = .ok (.bool (decide (a = b))) w := by
  rw [run_eql_struct w, tm_eq 9998]; rfl
theorem cp_neq (a b : Cp) (w : World) : (binOp .neq 95 (cpV a) (cpV b)).run Tryz.prog w = .ok (.bool (!decide (a = b))) w := by
  rw [run_neq_struct w, cp_eq 9997]; rfl
end Go.Proofs.YtccmnngeibpcmaaGreat.Tree
