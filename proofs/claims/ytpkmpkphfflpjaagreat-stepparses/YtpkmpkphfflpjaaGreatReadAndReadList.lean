import Derived.Test.YtpkmpkphfflpjaaGreatRows
import Derived.Test.YtpkmpkphfflpjaaGreatMathAndHeldSeq
import Derived.ProofKit
import Derived.Deep.SlicePairs
namespace Go.Proofs.YtpkmpkphfflpjaaGreat
open Go.ChangeShapes Go.WideShapes Go.ChangeAt Go.RowKit Go.Deep
theorem Tryz.cells79:Tryz.prog.cellsOf 79=2:=by kernel_rfl
theorem Tryz.cells104:Tryz.prog.cellsOf 104=2:=by kernel_rfl
theorem Tryz.cells3:Tryz.prog.cellsOf 3=1:=by kernel_rfl
theorem Tryz.cells4:Tryz.prog.cellsOf 4=1:=by kernel_rfl
theorem Tryz.cells77:Tryz.prog.cellsOf 77=1:=by kernel_rfl
theorem afw{H:Type}(d:DataW H):1<=Rows.uptoBulk d:=by
 cases d with
 |lit l=>cases l<;>simp[Rows.uptoBulk]
 |nil=>simp[Rows.uptoBulk]
 |ptr d=>simp[Rows.uptoBulk]
 |slice elems spare=>simp[Rows.uptoBulk]
 |agg parts=>simp[Rows.uptoBulk]
 |iface t d=>simp[Rows.uptoBulk]
 |map entries=>simp[Rows.uptoBulk]
 |held h=>simp[Rows.uptoBulk]
theorem afx{H:Type}{d:DataW H}{l:List (DataW H)}(h:d∈l):Rows.uptoBulk d<=Rows.uptoBulkAll l:=by
 induction l with
 |nil=>cases h
 |cons x r ih=>
  simp only[Rows.uptoBulkAll];cases List.mem_cons.1 h with
  |inl e=>subst e;omega
  |inr e=>have:=ih e;omega
theorem afy{H:Type}(l:List (DataW H)):l.length<=Rows.uptoBulkAll l:=by
 induction l with
 |nil=>simp
 |cons x r ih=>have:=afw x;simp only[Rows.uptoBulkAll,List.length_cons];omega
section
variable{H:Type}{enc:TypeId×Value->H}{W:World}{n:Nat}{v:Value}{x:DataW H×List MemPlace}
theorem plain_of_cell{a:Addr}{u:Value}(h:W.cell? (a.add 0)=some u):∃b o,a=⟨b,o,none⟩:=by
 obtain⟨b,o,spot⟩:=a;have:spot=none:=by simpa [Addr.add] using World.cell?_spot h
 subst this;exact⟨b,o,rfl⟩
theorem afz(h:DataW.trod enc Tryz.prog W 0 (fun _=>true) true n 77 [v]=some x):
 ∃(Rt:List Sy) (qa:Option Addr) (qc:Nat),v= .slice qa Rt.length qc/\Rt.length<=qc/\Rt.length<=Rows.uptoBulk x.1/\
  ∀j,j<Rt.length->∃b' o',qa=some ⟨b',o',none⟩/\b'<W.heap.size/\
   W.cell? ⟨b',o'+j*2,none⟩=some (.bool (Rt.getD j (false,0)).1)/\W.cell? ⟨b',o'+(j*2+1),none⟩=some (.int .i64 (Rt.getD j (false,0)).2):=by
 rcases open_slice_pairs Tryz.underlying77 Tryz.underlying104 Tryz.cells104 rfl rfl Tryz.cells4 Tryz.cells3 h with⟨hv,_⟩|⟨a,len,cap,m,n',V0,V1,D0,D1,P0,P1,hv,_,hl,_,hm,rfl,hx⟩
 ·simp only[List.cons.injEq,and_true]at hv
  exact⟨[],none,0,hv,by simp,by simp,fun j hj=>by simp at hj⟩
 ·simp only[List.cons.injEq,and_true]at hv
  simp only[if_true]at hm
  have each:∀i,i<len->∃s:Sy,W.cell? (a.add (i*2))=some (.bool s.1)/\W.cell? (a.add (i*2+1))=some (.int .i64 s.2):=fun i hi=>by
   obtain⟨h1,h2,h3,h4⟩:=hx i (by omega);obtain⟨t,ht,_⟩:=DataW.trod_bool Tryz.underlying4 h3;obtain⟨k,hk,_⟩:=DataW.trod_int Tryz.underlying3 h4;simp only[List.cons.injEq,and_true]at ht hk;exact⟨(t,k),by rw[h1,ht],by rw[h2,hk]⟩
  obtain⟨f,hf⟩:=choose_lt each;have hlen:((List.range len).map f).length=len:=by simp
  have hget:∀j,j<len->((List.range len).map f).getD j (false,0)=f j:=fun j hj=>by simp[List.getD,hj]
  refine⟨(List.range len).map f,some a,cap,by rw[hv,hlen],by rw[hlen];exact hl,?_,fun j hj=> ?_⟩
  ·have:=afy ((List.range len).map fun i=>DataW.agg [D0 i,D1 i])
   simp only[Rows.uptoBulk,List.length_map,List.length_range]at this⊢;omega
  ·rw[hlen]at hj
   rw[hget j hj];have h0:=(hf 0 (by omega)).1;rw[Nat.zero_mul]at h0;obtain⟨b,o,rfl⟩:=plain_of_cell h0;obtain⟨h1,h2⟩:=hf j hj;rw[add_plain]at h1 h2;exact⟨b,o,rfl,World.block_lt_of_cell? W _ h1,h1,h2⟩
theorem afA(h:DataW.trod enc Tryz.prog W 0 (fun _=>true) true n 22 [v]=some x):
 ∃R:List Ru,aD W W.heap.size v R/\∀q,(R.getD q (0,[])).2.length<=Rows.uptoBulk x.1:=by
 rcases open_slice_pairs Tryz.underlying22 Tryz.underlying79 Tryz.cells79 rfl rfl Tryz.cells3 Tryz.cells77 h with⟨hv,_⟩|⟨a,len,cap,m,n',V0,V1,D0,D1,P0,P1,hv,_,hl,_,hm,rfl,hx⟩
 ·simp only[List.cons.injEq,and_true]at hv
  exact⟨[],⟨⟨none,0,hv⟩,fun q hq=>by simp at hq⟩,fun q=>by simp⟩
 ·simp only[List.cons.injEq,and_true]at hv
  simp only[if_true]at hm
  have each:∀i,i<len->∃r:Ru,W.cell? (a.add (i*2))=some (.int .i64 r.1)/\∃qa qc,W.cell? (a.add (i*2+1))=some (.slice qa r.2.length qc)/\r.2.length<=qc/\r.2.length<=Rows.uptoBulk (D1 i)/\
   ∀j,j<r.2.length->∃b' o',qa=some ⟨b',o',none⟩/\b'<W.heap.size/\
    W.cell? ⟨b',o'+j*2,none⟩=some (.bool (r.2.getD j (false,0)).1)/\W.cell? ⟨b',o'+(j*2+1),none⟩=some (.int .i64 (r.2.getD j (false,0)).2):=fun i hi=>by
   obtain⟨h1,h2,h3,h4⟩:=hx i (by omega);obtain⟨k,hk,_⟩:=DataW.trod_int Tryz.underlying3 h3;simp only[List.cons.injEq,and_true]at hk;obtain⟨Rt,qa,qc,hq,hc,hb,hs⟩:=afz h4;exact⟨(k,Rt),by rw[h1,hk],qa,qc,by rw[h2,hq],hc,hb,hs⟩
  obtain⟨f,hf⟩:=choose_lt each;have hlen:((List.range len).map f).length=len:=by simp
  have hget:∀j,j<len->((List.range len).map f).getD j (0,[])=f j:=fun j hj=>by simp[List.getD,hj]
  refine⟨(List.range len).map f,⟨⟨some a,cap,by rw[hv,hlen]⟩,fun q hq=> ?_⟩,fun q=> ?_⟩
  ·rw[hlen]at hq
   rw[hget q hq];have h0:=(hf 0 (by omega)).1;rw[Nat.zero_mul]at h0;obtain⟨b,o,rfl⟩:=plain_of_cell h0;obtain⟨h1,qa,qc,h2,hc,_,h3⟩:=hf q hq;rw[add_plain]at h1 h2;exact⟨b,o,cap,qa,qc,by rw[hv,hlen],World.block_lt_of_cell? W _ h1,h1,h2,hc,h3⟩
  ·by_cases hq:q<len
   ·rw[hget q hq]
    obtain⟨_,_,_,_,_,hb,_⟩:=hf q hq;have h1:DataW.agg [D0 q,D1 q]∈(List.range len).map fun i=>DataW.agg [D0 i,D1 i]:=List.mem_map.2 ⟨q,List.mem_range.2 hq,rfl⟩;have h2:=afx h1;simp only[Rows.uptoBulk,Rows.uptoBulkAll]at h2⊢;omega
   ·simp[List.getD,List.getElem?_eq_none (show ((List.range len).map f).length<=q by omega)]
end
section
variable{H:Type}{enc:TypeId×Value->H}{W:World}{n:Nat}{v:Value}{x:DataW H×List MemPlace}
theorem afB(h:DataW.trod enc Tryz.prog W 0 (fun _=>true) true n 27 [v]=some x):∃D:List Int,aH W W.heap.size v D:=by
 rcases open_slice1 Tryz.underlying27 Tryz.cells3 h with⟨hv,_⟩|⟨a,len,cap,m,n',V,D,Pl,hv,_,hl,_,hm,rfl,hx⟩
 ·simp only[List.cons.injEq,and_true]at hv
  exact⟨[],⟨none,0,hv⟩,fun p hp=>by simp at hp⟩
 ·simp only[List.cons.injEq,and_true]at hv
  simp only[if_true]at hm
  have each:∀i,i<len->∃k:Int,W.cell? (a.add i)=some (.int .i64 k):=fun i hi=>by
   obtain⟨h1,h2⟩:=hx i (by omega);obtain⟨k,hk,_⟩:=DataW.trod_int Tryz.underlying3 h2;simp only[List.cons.injEq,and_true]at hk;exact⟨k,by rw[h1,hk]⟩
  obtain⟨f,hf⟩:=choose_lt each;have hlen:((List.range len).map f).length=len:=by simp
  refine⟨(List.range len).map f,⟨some a,cap,by rw[hv,hlen]⟩,fun p hp=> ?_⟩;rw[hlen]at hp;obtain⟨b,o,rfl⟩:=plain_of_cell (hf 0 (by omega));have h1:=hf p hp;rw[add_plain]at h1;exact⟨b,o,cap,by rw[hv,hlen],World.block_lt_of_cell? W _ h1,by rw[h1];simp[List.getD,hp]⟩
end
end Go.Proofs.YtpkmpkphfflpjaaGreat
