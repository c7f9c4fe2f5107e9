/- An append of bytes at a step of a region that draws its order. -/
import Derived.Test.YtnnaaliadbihkabApp
namespace Go.Proofs.Ytnnaaliadbihkab
open Go.RowKit

theorem step_append_row {P : Program} (w : World) {ops : Array Oper} {o : Oper} {ac : Act} {K : Act → World → Prop} {Q : Exit → Act → World → Prop} {E : Prop} (hgd : o.guard = none) (s x : Operand) (t tx e' : TypeId)
    (ho : o.op = .call { callee := .builtin .append, args := #[s, x], argTypes := #[t, tx] }) (i : TypeInfo) (ht : P.underlying t = some (.slice 5)) (htx : P.underlying tx = some (.slice e')) (hi : P.info? 5 = some i) (hz : i.zero = some (.int .u8 0)) (hs : i.size = 1) (hb : i.bytes = 1)
    (base : Nat) (v : Value) (l : List Nat) (hse : ac.eval s = v) (hown : Mine w base v l) (a : Option Addr) (n cap : Nat) (news : List Nat) (hn : n = news.length) (hxe : ac.eval x = .slice a n cap) (hr : Row w a cap news) (hbytes : l.length + news.length ≤ 140737488355328) (hbase : base ≤ w.heap.size)
    (h : ∀ a' c' w', Mine w' base (.slice a' (l.length + news.length) c') (l ++ news) → w.grownBy w' v.ownBlock → ((Value.slice a' (l.length + news.length) c').ownBlock = v.ownBlock ∨ (Value.slice a' (l.length + news.length) c').ownBlock = some w.heap.size) → K (ac.put o.dst (.slice a' (l.length + news.length) c')) w') :
    if Region.wanted o (yielded ops ac.tmps) = true then Oper.wp P o ac w K Q else E := by
  have hw : Region.wanted o (yielded ops ac.tmps) = true := by simp [Region.wanted, hgd]
  rw [if_pos hw]
  exact wp_append_row w s x t tx e' ho i ht htx hi hz hs hb base v l hse hown a n cap news hn hxe hr hbytes hbase h
end Go.Proofs.Ytnnaaliadbihkab
