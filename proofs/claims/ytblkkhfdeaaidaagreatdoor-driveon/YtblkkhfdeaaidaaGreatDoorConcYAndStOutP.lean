import Derived.Test.YtblkkhfdeaaidaaGreatDoorDrAsk2AndConcR
import Derived.Lib.AppendZeros
import Derived.Test.YtblkkhfdeaaidaaGreatDoorTkOfAndLRRun
import Derived.Test.YtblkkhfdeaaidaaGreatDoorHeldAnyAndTxLn
import Derived.Deep.DeepCutAuto
set_option maxHeartbeats 6400000
set_option maxRecDepth 100000
namespace Go.Proofs.YtblkkhfdeaaidaaGreatDoor
open Go.RowKit
theorem Tryz.infoCcY:(Tryz.prog.info? 116).map (fun i=>(i.zero,i.size,i.bytes))=some (some (.agg #[.bool false,.int .i64 0]),2,16):=by kernel_rfl
theorem adK{w:World}{oa sa:Option Addr}{n d c:Nat}(hn:n<=d)(h0:oa=none->n=0/\d=0):(Builtin.append_ #[ 89,89 ] 89 #[.slice oa n d,.slice sa 0 c]).run Tryz.prog w= .ok (.slice oa n d) w:=by
 cases oa with
 |none=>
  obtain⟨rfl,rfl⟩:=h0 rfl;cases sa<;>go_simp
 |some o=>cases sa<;>go_simp
theorem Vf{w:World}{B:Nat}{ov lv:Value}{n m:Nat}{xs ys:List Value}(ho:w.ownsRow B 116 2 ov n xs)(hl:eO w lv m ys)(hb:B<=w.heap.size)(hs:n+m<=100000):
 ∃a d w',(Builtin.append_ #[ 89,89 ] 89 #[ov,lv]).run Tryz.prog w= .ok (.slice a (n+m) d) w'/\w'.ownsRow B 116 2 (.slice a (n+m) d) (n+m) (xs++ys)/\w.grownBy w' ov.ownBlock/\∀g,(Value.slice a (n+m) d).ownBlock=some g->ov.ownBlock=some g\/g=w.heap.size:=by
 obtain⟨oa,od,hov⟩:=bK ho;obtain⟨⟨la,lc,hlv,_⟩,hlen,hone,hcell⟩:=hl;rcases Nat.eq_zero_or_pos m with h0|h0
 ·subst h0
  have he:ys=[]:=List.eq_nil_of_length_eq_zero (by omega);subst he;rw[hov,hlv]
  have hnd:n<=od/\(oa=none->n=0/\od=0):=by
   obtain⟨_,⟨hx,hz⟩|⟨_,_,_,hx,_,_,h5,_⟩⟩:=ho
   ·rw[hov]at hx
    injection hx with x1 x2 x3;exact⟨by omega,fun _=>⟨by omega,by omega⟩⟩
   ·rw[hov]at hx
    injection hx with x1 x2 x3;exact⟨by omega,fun e=>by rw[e]at x1;cases x1⟩
  refine⟨oa,od,w,adK hnd.1 hnd.2,?_,⟨rfl,rfl,rfl,Nat.le_refl _,fun _ _ _=>rfl⟩,fun g hg=> .inl hg⟩;rw[hov]at ho;simpa using ho
 ·obtain⟨ad,c,he,hnews⟩:=hcell h0
  obtain⟨i1,hi1,hy0,hy1,hy2⟩:=info_parts Tryz.infoCcY;obtain⟨g',cap',w',hr,h2,h3,h4,_⟩:=run_append_lies (P:=Tryz.prog) w 89 89 B 116 i1 _ 2 16 Tryz.underlying89 hi1 hy0 hy1 hy2 rfl (by omega) ov n xs ho ad m c ys hlen hnews hone h0 (by simp only[maxLen];omega) (by omega) hb w.heap.size rfl;rw[he];refine⟨_,_,w',hr,h2,h3,fun q hq=> ?_⟩;simp only[Value.ownBlock,Option.some.injEq]at hq;subst hq;exact h4
theorem adL{w:World}{ops:Array Oper}{rest:List Oper}{o:Oper}{a:Act}{Q:Exit->Act->World->Prop}(hgd:o.guard=none)(s x:Operand)(ho':o.op= .call { callee:= .builtin .append,args:= #[s,x],argTypes:= #[ 89,89 ] })(hty:o.type=89)
 {B n m:Nat} {xs ys:List Value} {ov lv:Value} (hsv:a.eval s=ov) (hxv:a.eval x=lv) (ho:w.ownsRow B 116 2 ov n xs) (hl:eO w lv m ys) (hb:B<=w.heap.size) (hs:n+m<=100000)
 (h:∀a' d' w',w'.ownsRow B 116 2 (.slice a' (n+m) d') (n+m) (xs++ys)->w.grownBy w' ov.ownBlock->(∀g,(Value.slice a' (n+m) d').ownBlock=some g->ov.ownBlock=some g\/g=w.heap.size)->wpList Tryz.prog ops Q rest (a.put o.dst (.slice a' (n+m) d')) w'):wpList Tryz.prog ops Q (o::rest) a w:=by
 obtain⟨a',d',w',hr,h1,h2,h3⟩:=Vf ho hl hb hs;refine wpList_plain hgd fun K hK=> ?_;unfold Oper.wp execOp;simp only[ho',hty,resolve,invoke,builtin,Sem.run_bind,Sem.run_pure,Result.andThen_ok,List.map_toArray,List.map_cons,List.map_nil,hsv,hxv,hr];exact hK _ _ (h a' d' w' h1 h2 h3)
theorem adM{w:World}{ops:Array Oper}{o:Oper}{a:Act}{K:Act->World->Prop}{Q:Exit->Act->World->Prop}{E:Prop}(hgd:o.guard=none)(s x:Operand)(ho':o.op= .call { callee:= .builtin .append,args:= #[s,x],argTypes:= #[ 89,89 ] })(hty:o.type=89)
 {B n m:Nat} {xs ys:List Value} {ov lv:Value} (hsv:a.eval s=ov) (hxv:a.eval x=lv) (ho:w.ownsRow B 116 2 ov n xs) (hl:eO w lv m ys) (hb:B<=w.heap.size) (hs:n+m<=100000)
 (h:∀a' d' w',w'.ownsRow B 116 2 (.slice a' (n+m) d') (n+m) (xs++ys)->w.grownBy w' ov.ownBlock->(∀g,(Value.slice a' (n+m) d').ownBlock=some g->ov.ownBlock=some g\/g=w.heap.size)->K (a.put o.dst (.slice a' (n+m) d')) w'):if Region.wanted o (yielded ops a.tmps)=true then Oper.wp Tryz.prog o a w K Q else E:=by
 obtain⟨a',d',w',hr,h1,h2,h3⟩:=Vf ho hl hb hs;have hw:Region.wanted o (yielded ops a.tmps)=true:=by simp[Region.wanted,hgd]
 rw[if_pos hw];unfold Oper.wp execOp;simp only[ho',hty,resolve,invoke,builtin,Sem.run_bind,Sem.run_pure,Result.andThen_ok,List.map_toArray,List.map_cons,List.map_nil,hsv,hxv,hr];exact h a' d' w' h1 h2 h3
theorem adN{w:World}{n:Nat}(hn:n<=100000):
 Calls Tryz.prog 234 #[.slice none 0 0,.int .i64 n] w fun e w'=> ∃v,e= .returned v/\w'.ownsRow w.heap.size 116 2 v 0 []/\Below w.heap.size w w':=by
 have i0:(0:Int)<=(n:Int):=Int.natCast_nonneg _;rcases Nat.eq_zero_or_pos n with h0|h0
 ·subst h0
  go_enter Tryz.func234,Tryz.ntmps234
  go_wp2_with fail
  go_ret;exact⟨_,rfl,World.ownsRow_nil _ _ _ _,Below.refl _ _⟩
 ·obtain⟨i1,hi1,hy0,hy1,hy2⟩:=info_parts Tryz.infoCcY
  have hi:(0:Int)<(n:Int):=by omega
  have hr:=Lib.run_append_nil_zeros (P:=Tryz.prog) w 89 3 89 116 i1 (.agg #[.bool false,.int .i64 0]) .i64 .i64 Tryz.underlying89 Tryz.underlying3 hi1 hy0 n h0 (by rw[hy1];omega) (by omega) (by rw[hy2];omega);have hge:=grownCap_ge w n 0 116;have hle:=grownCap_le_maxLen w n 0 116 (by unfold maxLen;omega);obtain⟨C,hC⟩:∃C,grownCap w n 0 116=C:=⟨_,rfl⟩;rw[hC]at hr hge hle;clear hC;obtain⟨cur,hcur⟩:∃cur,Builtin.zeroCells (.agg #[.bool false,.int .i64 0]:Value).cells n++Builtin.zeroCells (.agg #[.bool false,.int .i64 0]:Value).cells (C-n)=cur:=⟨_,rfl⟩
  have hcs:cur.size=C*2:=by
   rw[<-hcur,Array.size_append,size_zeroCells,size_zeroCells];have:(.agg #[.bool false,.int .i64 0]:Value).cells.size=2:=rfl;rw[this];omega
  rw[hcur]at hr;clear hcur;have hup:∀w0 w,Sem.run Tryz.prog (Instr.sliceAt 89 (.slice (some ⟨w0,0,none⟩) n C) none (some (.int .i64 0)) none) w= .ok (.slice (some ⟨w0,0,none⟩) 0 C) w:=fun w0 w=>by go_simp
  go_enter Tryz.func234,Tryz.ntmps234
  go_wp2_with (at_builtin;refine Lib.wpList_append_run _ rfl _ _ _ _ rfl _ _ rfl rfl _ _ hr ?_)
  go_ret;exact⟨_,rfl,⟨rfl,.inr ⟨w.heap.size,C,cur,rfl,Nat.le_refl _,heap_alloc_new _ _,Nat.zero_le _,hle,hcs,rfl⟩⟩,(Below.refl _ _).drew.alloc (Nat.le_refl _) _⟩
theorem ML{w:World}{pb:Nat}{PL:List Part}(hp:∀i (hi:i<PL.length),w.cell? ⟨pb,i,none⟩=some PL[i].1)(hr:∀p∈PL,eO w p.1 p.2.1 p.2.2)(hs:dm PL<=100000)(hl:PL.length<=1000):
 Calls Tryz.prog 232 #[.slice (some ⟨pb,0,none⟩) PL.length PL.length] w fun e w'=> ∃a d,e= .returned (.slice a (dm PL) d)/\w'.ownsRow w.heap.size 116 2 (.slice a (dm PL) d) (dm PL) (kC PL)/\Below w.heap.size w w':=by
 have HP:Hid (∀i (hi:i<PL.length),w.cell? ⟨pb,i,none⟩=some PL[i].1):=hp;have HR:Hid (∀p∈PL,eO w p.1 p.2.1 p.2.2):=hr;have HS:Hid (dm PL<=100000):=hs;clear hp hr
 go_enter Tryz.func232,Tryz.ntmps232
 go_wp2_with fail
 go_loop [3,11] (fun s3 s11=> ∃k:Nat,s3= .int .i64 (dm (PL.take k))/\s11= .int .i64 k/\k<=PL.length) (fun _ s=>PL.length-(intOf s).toNat)
 case atStart=>exact⟨0,rfl,rfl,Nat.zero_le _⟩
 case round=>
  obtain⟨k,rfl,rfl,hk⟩:=hrel;by_cases hlt:k<PL.length
  ·have c1:=HP.out k hlt
   obtain⟨⟨a,c,hv,_⟩,_⟩:=HR.out PL[k] (List.getElem_mem hlt);have ht:=Iz hlt;have hle:=IA PL (k+1);obtain⟨m,hm⟩:∃m,PL[k].2.1=m:=⟨_,rfl⟩;rw[hm]at hv ht;rw[hv]at c1;obtain⟨t,h0⟩:∃t,dm (PL.take k)=t:=⟨_,rfl⟩;rw[h0]at ht⊢;have HT:Hid (dm (PL.take (k+1))=t+m):=ht;have i0:(0:Int)<=(k:Int):=Int.natCast_nonneg _;have i1:(k:Int)<(PL.length:Int):=by omega
   have i2:IntKind.i64.wrap ((t:Int)+(m:Int))=(t:Int)+(m:Int):=IntWalk.i64_in _ (by omega);have i3:decide ((t:Int)+(m:Int)<0)=false:=decide_eq_false (by omega);clear hm hv ht h0 hle
   go_wp2_with fail
   go_round
   case rel=>exact⟨k+1,by rw[HT.out];push_cast;rfl,by go_num,by omega⟩
   case measure=>simp[intOf];omega
  ·have hkk:k=PL.length:=by omega
   subst hkk;rw[List.take_length];obtain⟨t,h0⟩:∃t,dm PL=t:=⟨_,rfl⟩;have gr:=adN (w:=w) (n:=t) (by omega);rw[h0];have HT:Hid (dm PL=t):=h0;clear h0 hs
   go_wp2_with (go_at_call 234;refine gr.mono ?_;rintro e w1 ⟨v,rfl,hown,hB⟩;clear gr)
   go_loopw [6,27] (fun s6 D8 wr=> ∃(k:Nat) (ov:Value),ov=s6/\D8= .int .i64 k/\k<=PL.length/\wr.ownsRow w.heap.size 116 2 ov (dm (PL.take k)) (kC (PL.take k))/\Below w.heap.size w wr) (fun _ s _=>PL.length-(intOf s).toNat)
   case atStart=>exact⟨0,_,rfl,rfl,Nat.zero_le _,hown,hB⟩
   case round=>
    obtain⟨k,ov,rfl,rfl,hk,hO,hB1⟩:=hrel;clear hown hB;have HB:Hid (Below w.heap.size w wr):=hB1;by_cases hlt:k<PL.length
    ·have hrow:=(HR.out PL[k] (List.getElem_mem hlt)).below (Nat.le_refl _) hB1
     have c1:=(hB1.cell (World.block_lt_of_cell? _ _ (HP.out k hlt))).trans (HP.out k hlt);have ht:=Iz hlt;have hx:=Vb hlt;have hle:=IA PL (k+1);rw[HT.out]at hle;have hT:=HS.out;rw[HT.out]at hT;obtain⟨⟨pv,m,ys⟩,hm⟩:∃p,PL[k]=p:=⟨_,rfl⟩;rw[hm]at hrow c1 ht hx;simp only at hrow c1 ht hx;obtain⟨a,c,hv,_⟩:=hrow.1;subst hv;obtain⟨q,h0⟩:∃q,dm (PL.take k)=q:=⟨_,rfl⟩;obtain⟨xs,h1⟩:∃xs,kC (PL.take k)=xs:=⟨_,rfl⟩;rw[h0,h1]at hO;rw[h0]at ht;rw[h1]at hx;have HX:Hid (dm (PL.take (k+1))=q+m/\kC (PL.take (k+1))=xs++ys):=⟨ht,hx⟩;have hqm:q+m<=100000:=by omega
     have hbs:=hB1.size;have i0:(0:Int)<=(k:Int):=Int.natCast_nonneg _;have i1:(k:Int)<(PL.length:Int):=by omega
     clear hm ht hx hle hT h0 h1 hB1
     go_wp2_with
      (at_builtin
       refine adL rfl _ _ rfl rfl rfl rfl hO hrow hbs hqm ?_
       intro a' d' w' hown' hgrow hat)
     go_roundw
     case rel=>exact⟨k+1,_,rfl,by go_num,by omega,by rw[HX.out.1,HX.out.2];exact hown',HB.out.grown hgrow HB.out.size fun g hg=>((hO.lt g hg).1)⟩
     case measure=>simp[intOf];omega
    ·have hkk:k=PL.length:=by omega
     subst hkk;rw[List.take_length,HT.out]at hO;obtain⟨a,c,hv⟩:=bK hO;subst hv
     go_wp2_with fail
     go_ret;rw[HT.out];exact⟨a,c,rfl,hO,HB.out⟩
end Go.Proofs.YtblkkhfdeaaidaaGreatDoor
namespace Go.Proofs.YtblkkhfdeaaidaaGreatDoor
def iD:List Sy->List Int
 | []=>[]
 |(true,_)::l=>iD l
 |(false,n)::l=>n::iD l
section
variable{R:List Ru}
end
theorem MN:∀(l m:List Sy),iD (l++m)=iD l++iD m
 | [],m=>rfl
 |(true,_)::l,m=>MN l m
 |(false,n)::l,m=>by rw[List.cons_append,iD,iD,MN l m,List.cons_append]
end Go.Proofs.YtblkkhfdeaaidaaGreatDoor
namespace Go.Proofs.YtblkkhfdeaaidaaGreatDoor
open Go.RowKit
theorem BG{w:World}{base:Nat}{e:TypeId}{size:Nat}{v:Value}{n:Nat}{xs:List Value}(h:w.ownsRow base e size v n xs){a:Addr}(ha:a.block<base)(u:Value):(w.setCell a u).ownsRow base e size v n xs:=by
 obtain⟨z1,z2|⟨g',c',cur,e',z2,z3,z4⟩⟩:=h
 ·exact⟨z1,.inl z2⟩
 ·exact⟨z1,.inr ⟨g',c',cur,e',z2,by rw[Below.heap_setCell _ _ _ _ (by omega)];exact z3,z4⟩⟩
theorem ul{w:World}{n m:Int}:Calls Tryz.prog 170 #[.int .i64 n,.int .i64 m] w fun e w'=>e= .returned (.bool (decide (0<=n)&&decide (n<m)))/\w'=w:=by
 by_cases h0:0<=n
 ·by_cases h1:n<m
  ·have e1:decide (n<m)=true:=decide_eq_true h1
   have e0:decide (0<=n)=true:=decide_eq_true h0;rw[e0,e1]
   go_enter Tryz.func170,Tryz.ntmps170
   go_wp2_with fail
   go_ret;exact⟨rfl,rfl⟩
  ·have e1:decide (n<m)=false:=decide_eq_false h1
   have e0:decide (0<=n)=true:=decide_eq_true h0;rw[e0,e1];clear h1
   go_enter Tryz.func170,Tryz.ntmps170
   go_wp2_with fail
   go_ret;exact⟨rfl,rfl⟩
 ·have e0:decide (0<=n)=false:=decide_eq_false h0
  rw[e0];clear h0
  go_enter Tryz.func170,Tryz.ntmps170
  go_wp2_with fail
  go_ret;exact⟨rfl,rfl⟩
section
variable{w:World}{T N:Int}{ra:Option Addr}{rn rc:Nat}{op a b c:Int}
theorem zx:Calls Tryz.prog 233 #[.agg #[.int .i64 T,.int .i64 N,.slice ra rn rc,.int .i64 op,.int .i64 a,.int .i64 b,.int .i64 c]] w fun e w'=>e= .returned (.agg #[.bool false,.int .i64 N])/\Below w.heap.size w w':=by
 go_enter Tryz.func233,Tryz.ntmps233
 go_wp2_with fail
 refine bodyPost_ret (v:= .agg #[.bool false,.int .i64 N]) (by simp[results,Tryz.results233,go_sem]) rfl ?_;exact⟨rfl,by first|exact((Below.refl _ _).alloc (Nat.le_refl _) _).alloc (by simp) _|exact(((Below.refl _ _).alloc (Nat.le_refl _) _).alloc (by simp) _).setCell (by simp) _⟩
theorem EI{M:Int}{oa:Option Addr}{on oc:Nat}:Calls Tryz.prog 227 #[.agg #[.int .i64 T,.int .i64 N,.slice ra rn rc,.int .i64 op,.int .i64 a,.int .i64 b,.int .i64 c],.int .i64 M,.slice oa on oc] w fun e w'=>e= .returned (.agg #[.int .i64 T,.int .i64 M,.slice oa on oc])/\Below w.heap.size w w':=by
 go_enter Tryz.func227,Tryz.ntmps227
 go_wp2_with fail
 refine bodyPost_ret (v:= .agg #[.int .i64 T,.int .i64 M,.slice oa on oc]) (by simp[results,Tryz.results227,go_sem]) rfl ?_;exact⟨rfl,by first|exact((Below.refl _ _).alloc (Nat.le_refl _) _).alloc (by simp) _|exact(((Below.refl _ _).alloc (Nat.le_refl _) _).alloc (by simp) _).setCell (by simp) _⟩
end
theorem Vg{w:World}{L:Int}{lv:Value}{l:List Sy}(hl:bG w lv l)(hs:l.length<=1000):
 Calls Tryz.prog 228 #[.agg #[.int .i64 L,lv]] w fun e w'=> ∃ga d,e= .returned (.agg #[.int .i64 L,.slice ga l.length d])/\w'.ownsRow w.heap.size 116 2 (.slice ga l.length d) l.length (aR l)/\Below w.heap.size w w':=by
 obtain⟨la,lc,hlv,_⟩:=hl.1;subst hlv;obtain⟨n,hn⟩:∃n,l.length=n:=⟨_,rfl⟩;rw[hn]at hl hs⊢;have HL:Hid (bG w (.slice la n lc) l/\l.length=n):=⟨hl,hn⟩;clear hl hn
 go_enter Tryz.func228,Tryz.ntmps228
 go_upto_region 1 with fail
 obtain⟨W1,hW1⟩:∃W,(w.alloc (.cells #[.int .i64 L,.slice la n lc] 91)).alloc (.cells #[.int .i64 0,.slice none 0 0] 91)=W:=⟨_,rfl⟩;obtain⟨W2,hW2⟩:∃W,W1.drew=W:=⟨_,rfl⟩;have u1:W2.cell? ⟨w.heap.size,0,none⟩=some (.int .i64 L):=by rw[<-hW2,<-hW1];simp[go_sem]
 have u2:W2.cell? ⟨w.heap.size,1,none⟩=some (.slice la n lc):=by rw[<-hW2,<-hW1];simp[go_sem]
 have u3:W2.cell? ⟨w.heap.size+1,0,none⟩=some (.int .i64 0):=by rw[<-hW2,<-hW1];simp[go_sem]
 have u4:W2.cell? ⟨w.heap.size+1,1,none⟩=some (.slice none 0 0):=by rw[<-hW2,<-hW1];simp[go_sem]
 have uf:∀o,W2.frozen? ⟨w.heap.size+1,o,none⟩=false:=fun o=>by rw[<-hW2,<-hW1];simp[go_sem]
 have hB1:Below w.heap.size w W2:=by rw[<-hW2,<-hW1];exact(((Below.refl _ _).alloc (Nat.le_refl _) _).alloc (by simp) _).drew
 have hs1:W2.heap.size=w.heap.size+2:=by rw[<-hW2,<-hW1];simp
 have HL1:Hid (∀wq,Below W2.heap.size W2 wq->eO wq (.slice la n lc) n (aR l)):=fun wq hq=>by
  have:=HL.out.1.row;rw[HL.out.2]at this;exact this.below (B:=w.heap.size) (Nat.le_refl _) (hB1.trans (hq.mono (by omega)))
 have HS:Hid (W2.heap.size=w.heap.size+2):=hs1;rw[hW1];clear hW1 hs1;refine Xm [0,1,3,4] 4 7 (fun w'=>w'.cell? ⟨w.heap.size,0,none⟩=some (.int .i64 L)/\w'.cell? ⟨w.heap.size,1,none⟩=some (.slice la n lc)) (by kernel_rfl) (by kernel_rfl) (by rw[hW2];exact⟨u1,u2⟩) ?_;rw[hW2];clear hW2
 iterate 4
  refine aO.vW (v:= ?_) rfl (by rfl) ?_ ?_;rotate_left
  ·intro w' hSw
   obtain⟨z0,z1⟩:=hSw
   go_simp
   try with_reducible rfl
  simp only[Act.put,List.setIfInBounds_toArray,List.set_cons_zero,List.set_cons_succ]
 rw[aO];have hB2:Below W2.heap.size W2 (W2.alloc (.cells #[] 116)):=(Below.refl _ _).alloc (Nat.le_refl _) _;have DW:(W2.alloc (.cells #[] 116)).ownsRow W2.heap.size 116 2 (.slice (some ⟨W2.heap.size,0,none⟩) 0 0) 0 []:=⟨rfl,.inr ⟨W2.heap.size,0,#[],rfl,Nat.le_refl _,heap_alloc_new _ _,Nat.le_refl _,by decide,rfl,rfl⟩⟩;have hrow:=HL1.out _ hB2;refine nH.one (i:=2) (by kernel_rfl) ⟨_,rfl,fun K hK=> ?_⟩
 go_simp
 refine hK.out _ _ (fun _=>⟨?_,?_⟩) ?_
 ·exact(hB2.cell (World.block_lt_of_cell? _ _ u1)).trans u1
 ·exact(hB2.cell (World.block_lt_of_cell? _ _ u2)).trans u2
 clear hK;refine nH.one (i:=5) (by kernel_rfl) ⟨_,rfl,fun K hK=> ?_⟩;refine adM rfl _ _ rfl rfl rfl rfl DW hrow hB2.size (by omega) ?_;intro a' d' w' hown hgrow hat;have hB3:Below W2.heap.size W2 w':=hB2.grown hgrow hB2.size fun k hk=>(DW.lt k hk).1;rw[Nat.zero_add]at hown⊢;rw[List.nil_append]at hown;have v1:=(hB3.cell (World.block_lt_of_cell? _ _ u1)).trans u1;have v2:=(hB3.cell (World.block_lt_of_cell? _ _ u2)).trans u2;have v3:=(hB3.cell (World.block_lt_of_cell? _ _ u3)).trans u3;have v4:=(hB3.cell (World.block_lt_of_cell? _ _ u4)).trans u4;have vf:∀o,w'.frozen? ⟨w.heap.size+1,o,none⟩=false:=fun o=>(hB3.frozen (p:=⟨w.heap.size+1,o,none⟩) (show w.heap.size+1<_ by rw[HS.out];omega)).trans (uf o);have vf0:=vf 0;have vf1:=vf 1;refine hK.out _ _ (fun _=>⟨v1,v2⟩) ?_;clear hK DW hrow hgrow hat u1 u2 u3 u4 uf hB2;refine nH.one (i:=6) (by kernel_rfl) ⟨_,rfl,fun K hK=> ?_⟩
 go_simp
 refine hK.out _ _ (fun _=>⟨v1,v2⟩) ?_;clear hK;refine nH.one (i:=7) (by kernel_rfl) ⟨_,rfl,fun K hK=> ?_⟩
 go_simp
 refine hK.out _ _ (fun h=>absurd h (by omega)) ?_;clear hK;refine nH.end (by kernel_rfl) (NoPanic.normal ?_)
 have q0:((w'.setCell ⟨w.heap.size+1,0,none⟩ (.int .i64 L)).setCell ⟨w.heap.size+1,1,none⟩ (.slice a' n d')).cell? ⟨w.heap.size+1,0,none⟩=some (.int .i64 L):=by
  rw[iE (.inr (by simp))];exact World.cell?_setCell_same _ _ _ v3
 have q1:((w'.setCell ⟨w.heap.size+1,0,none⟩ (.int .i64 L)).setCell ⟨w.heap.size+1,1,none⟩ (.slice a' n d')).cell? ⟨w.heap.size+1,1,none⟩=some (.slice a' n d'):=by
  exact World.cell?_setCell_same _ _ _ ((iE (.inr (by simp))).trans v4)
 go_wp2_with fail
 refine bodyPost_ret (v:= .agg #[.int .i64 L,.slice a' n d']) (by simp[results,Tryz.results228,go_sem,q0,q1]) rfl ?_;have hlo:w.heap.size+1<W2.heap.size:=by rw[HS.out];omega
 refine⟨a',d',rfl,jf (BG (BG hown (a:=⟨w.heap.size+1,0,none⟩) hlo _) (a:=⟨w.heap.size+1,1,none⟩) hlo _) (by omega),?_⟩;exact((hB1.trans (hB3.mono (by omega))).setCell (p:=⟨w.heap.size+1,0,none⟩) (by simp) _).setCell (p:=⟨w.heap.size+1,1,none⟩) (by simp) _
theorem adO{l:List Sy}{k:Nat}(hk:k<l.length):(iD (l.take (k+1))).length=(iD (l.take k)).length+(if (l.getD k (false,0)).1 then 0 else 1):=by
 have e:l.getD k (false,0)=l[k]:=by simp[List.getD,hk]
 rw[List.take_succ_eq_append_getElem hk,MN,List.length_append,e];obtain⟨t,n⟩:=l[k];cases t<;>rfl
theorem adP(l:List Sy):(iD l).length<=l.length:=by
 induction l with
 |nil=>exact Nat.le_refl _
 |cons x l ih=>
  obtain⟨t,n⟩:=x;cases t
  ·rw[iD,List.length_cons,List.length_cons];omega
  ·rw[iD,List.length_cons];omega
theorem MO{w:World}{lv:Value}{l:List Sy}(hl:bG w lv l)(hs:l.length<=1000):
 Calls Tryz.prog 171 #[lv] w fun e w'=>e= .returned (.int .i64 (iD l).length)/\Below w.heap.size w w':=by
 obtain⟨la,lc,hlv,_⟩:=hl.1;subst hlv;have HL:Hid (bG w (.slice la l.length lc) l):=hl;clear hl
 go_enter Tryz.func171,Tryz.ntmps171
 go_wp2_with fail
 go_loopw [3,8] (fun s3 s8 wr=> ∃k:Nat,s3= .int .i64 (iD (l.take k)).length/\s8= .int .i64 k/\k<=l.length/\Below w.heap.size w wr) (fun _ s _=>l.length-(intOf s).toNat)
 case atStart=>exact⟨0,rfl,rfl,Nat.zero_le _,Below.refl _ _⟩
 case round=>
  obtain⟨k,rfl,rfl,hk,hB⟩:=hrel;have HB:Hid (Below w.heap.size w wr):=hB;by_cases hlt:k<l.length
  ·obtain⟨b,o,c,hv,c1,c2⟩:=(HL.out.same (iH hB)).2 k hlt
   cases hv;have ht:=adO hlt;have hle:=adP (l.take k);rw[List.length_take]at hle;obtain⟨⟨t,v⟩,hx⟩:∃x,l.getD k (false,0)=x:=⟨_,rfl⟩;rw[hx]at c1 c2 ht;simp only at c1 c2 ht;obtain⟨q,hq⟩:∃q,(iD (l.take k)).length=q:=⟨_,rfl⟩;rw[hq]at ht hle⊢;have hq8:q<=1000:=by omega
   have HT:Hid ((iD (l.take (k+1))).length=q+(if t=true then 0 else 1)):=ht;have i0:(0:Int)<=(k:Int):=Int.natCast_nonneg _;have i1:(k:Int)<(l.length:Int):=by omega
   have hsz:=hB.size;clear hx ht hq hle hB;cases t with
   |true=>
    go_wp2_with fail
    go_roundw
    case rel=>exact⟨k+1,by rw[HT.out];rfl,by go_num,by omega,HB.out.alloc hsz _⟩
    case measure=>simp[intOf];omega
   |false=>
    go_wp2_with fail
    go_roundw
    case rel=>exact⟨k+1,by rw[HT.out];go_num,by go_num,by omega,HB.out.alloc hsz _⟩
    case measure=>simp[intOf];omega
  ·have hkk:k=l.length:=by omega
   subst hkk;rw[List.take_length];clear hB
   go_wp2_with fail
   go_ret;exact⟨rfl,HB.out⟩
def jB(x:Value×Ru):List Value:=[.int .i64 x.2.1,x.1]
def cO(RL:List (Value×Ru)):List Value:=RL.flatMap jB
theorem BH(RL:List (Value×Ru)):(cO RL).length=RL.length*2:=by
 unfold cO
 induction RL with
 |nil=>rfl
 |cons a L ih=>rw[List.flatMap_cons,List.length_append,ih];simp[jB];omega
theorem IB{RL:List (Value×Ru)}{i j:Nat}(hi:i<RL.length)(hj:j<2):(cO RL)[i*2+j]?=(jB (RL.getD i (.slice none 0 0,(0,[]))))[j]?:=by
 unfold cO
 induction RL generalizing i with
 |nil=>simp at hi
 |cons a L ih=>
  rw[List.flatMap_cons];cases i with
  |zero=>rw[List.getElem?_append_left (by simp[jB];omega)];simp
  |succ i=>
   rw[List.getElem?_append_right (by simp[jB];omega)];simp only[jB,List.length_cons,List.length_nil];rw[show (i+1)*2+j-(0+1+1)=i*2+j by omega];have:=ih (i:=i) (by simpa using hi);simpa [List.getD,jB] using this
theorem MP(A C:List (Value×Ru)):cO (A++C)=cO A++cO C:=by simp[cO]
structure aM(w:World)(B:Nat)(lv:Value)(RL:List (Value×Ru)):Prop where
 own:w.ownsRow B 91 2 lv RL.length (cO RL)
 sym:∀x∈RL,oG w (fun b=>B<=b/\lv.ownBlock≠some b) x.1 x.2.2
section
variable{w w':World}{B:Nat}{lv:Value}{RL:List (Value×Ru)}
theorem aM.below(h:aM w B lv RL)(hb:Below w.heap.size w w'):aM w' B lv RL:=⟨own_below h.own hb fun g hg=>(h.own.lt g hg).2,fun x hx=>(h.sym x hx).below hb⟩
theorem aM.mono{B':Nat}(h:aM w B lv RL)(hB:B'<=B):aM w B' lv RL:=⟨jf h.own hB,fun x hx=>(h.sym x hx).kept (Nat.le_refl _) fun b hA _=>⟨rfl,by have:=hA.1;omega,hA.2⟩⟩
theorem IC(w:World)(B:Nat):aM w B (.slice none 0 0) []:=⟨World.ownsRow_nil _ _ _ _,fun x hx=>by cases hx⟩
theorem adQ(h:∀x∈RL,∃a n c,x.1= .slice a n c):∀u∈cO RL,u.oneCell'=true:=fun u hu=>by
 unfold cO at hu;obtain⟨x,hx,hu⟩:=List.mem_flatMap.1 hu;obtain⟨a,n,c,e⟩:=h x hx;simp only[jB,List.mem_cons,List.not_mem_nil,or_false]at hu;rcases hu with rfl|rfl
 ·rfl
 ·rw[e];rfl
theorem aM.slices(h:aM w B lv RL):∀x∈RL,∃a n c,x.1= .slice a n c:=fun x hx=>let ⟨a,c,e,_⟩:=(h.sym x hx).1;⟨a,_,c,e⟩
theorem aM.rules(h:aM w B lv RL):au w w.heap.size lv (RL.map fun x=>x.2):=by
 obtain⟨a,c,hv⟩:=bK h.own;refine⟨⟨a,c,by rw[hv,List.length_map]⟩,fun q hq=> ?_⟩;have hq':q<RL.length:=by simpa using hq
 obtain⟨g,cap,hg,_,hlt⟩:=h.own.form (by omega);have ho:=h.own;rw[hg]at ho;have e:(RL.map fun x=>x.2).getD q (0,[])=(RL.getD q (.slice none 0 0,(0,[]))).2:=by simp[List.getD,hq']
 have hx:RL.getD q (.slice none 0 0,(0,[]))∈RL:=by simp[List.getD,hq']
 obtain⟨⟨qa,qc,Vh,hqc⟩,hsy⟩:=h.sym _ hx;have c0:=(ho.cellAt (q*2) (by omega)).trans (IB (j:=0) hq' (by omega));have c1:=(ho.cellAt (q*2+1) (by omega)).trans (IB (j:=1) hq' (by omega));simp only[jB,List.getElem?_cons_zero,List.getElem?_cons_succ]at c0 c1;rw[Vh]at c1;refine⟨g,0,cap,qa,qc,by rw[hg,List.length_map],hlt,by rw[e,Nat.zero_add];exact c0,by rw[e,Nat.zero_add];exact c1,by rw[e];exact hqc,fun j hj=> ?_⟩;rw[e]at hj⊢;obtain⟨b,o,c',h1,_,h3,h4,h5⟩:=hsy j hj;rw[Vh]at h1;cases h1;exact⟨b,o,rfl,h3,h4,by rw[<-Nat.add_assoc];exact h5⟩
end
section
variable{w wq w':World}{T N:Nat}{ra:Option Addr}{rc:Nat}{R:List Ru}{s:Stp}{rb g d:Nat}{L:Int}{l:List Sy}
end
def gQ(lv:Value)(RL:List (Value×Ru)):Option Nat->Option Row
 |none=>some ⟨lv,91,2,RL.length,cO RL⟩
 |some k=>(RL[k]?).map fun x=>⟨x.1,116,2,x.2.2.length,aR x.2.2⟩
section
variable{w w5 w6:World}{B:Nat}{lv nv v:Value}{RL:List (Value×Ru)}{L:Int}{l:List Sy}
theorem MQ{k:Nat}{a:Row}(h:gQ lv RL (some k)=some a):∃hk:k<RL.length,a=⟨RL[k].1,116,2,RL[k].2.2.length,aR RL[k].2.2⟩:=by
 change (RL[k]?).map (fun x=>(⟨x.1,116,2,x.2.2.length,aR x.2.2⟩:Row))=some a at h;by_cases hk:k<RL.length
 ·rw[List.getElem?_eq_getElem hk]at h
  simp only[Option.map_some,Option.some.injEq]at h;exact⟨hk,h.symm⟩
 ·rw[List.getElem?_eq_none (by omega)]at h
  simp at h
theorem um{k:Nat}(hk:k<RL.length):gQ lv RL (some k)=some ⟨RL[k].1,116,2,RL[k].2.2.length,aR RL[k].2.2⟩:=by
 change (RL[k]?).map (fun x=>(⟨x.1,116,2,x.2.2.length,aR x.2.2⟩:Row))=_;rw[List.getElem?_eq_getElem hk];rfl
theorem Vi(w:World)(B:Nat):ah w B (gQ (.slice none 0 0) []):=by
 refine⟨fun i r hr=> ?_,fun i j a b hij ha hb g h1 h2=> ?_⟩
 ·cases i with
  |none=>cases hr;exact World.ownsRow_nil _ _ _ _
  |some k=>obtain⟨hk,_⟩:=MQ hr;simp at hk
 ·cases i with
  |none=>cases ha;cases h1
  |some k=>obtain⟨hk,_⟩:=MQ ha;simp at hk
theorem ah.pX(h:ah w B (gQ lv RL)):w.ownsRow B 91 2 lv RL.length (cO RL):=h.own none _ rfl
theorem ah.zy(h:ah w B (gQ lv RL)){k:Nat}(hk:k<RL.length):w.ownsRow B 116 2 RL[k].1 RL[k].2.2.length (aR RL[k].2.2):=h.own (some k) _ (um hk)
theorem ah.Vj(h:ah w B (gQ lv RL))(hB:B<=w.heap.size)(hb:Below w.heap.size w w5)(ho:w5.ownsRow w.heap.size 116 2 v l.length (aR l))(hg:w5.grownBy w6 lv.ownBlock)(hn:w6.ownsRow B 91 2 nv (RL.length+1) (cO (RL++[(v,(L,l))])))(hat:∀g,nv.ownBlock=some g->lv.ownBlock=some g\/w5.heap.size<=g):ah w6 B (gQ nv (RL++[(v,(L,l))])):=by
 have hs5:=hb.size;have hlv:∀g,lv.ownBlock=some g->g<w.heap.size:=fun g hg=>(h.pX.lt g hg).2
 have old:∀k (hk:k<RL.length),w6.ownsRow B 116 2 RL[k].1 RL[k].2.2.length (aR RL[k].2.2):=fun k hk=>by
  refine(own_below (h.zy hk) hb fun g hg=>(((h.zy hk).lt g hg).2)).kept hg ?_;cases e:RL[k].1.ownBlock with
  |none=>exact .inl rfl
  |some g=>exact .inr fun e'=>h.apart (some k) none _ _ (by simp) (um hk) rfl g e e'.symm
 have new:w6.ownsRow w.heap.size 116 2 v l.length (aR l):=by
  refine ho.kept hg ?_;cases e:v.ownBlock with
  |none=>exact .inl rfl
  |some g=>exact .inr fun e'=>by have:=hlv g e'.symm;have:=(ho.lt g e).1;omega
 have cases':∀{k:Nat} {a:Row},gQ nv (RL++[(v,(L,l))]) (some k)=some a->(∃hk:k<RL.length,a=⟨RL[k].1,116,2,RL[k].2.2.length,aR RL[k].2.2⟩)\/(k=RL.length/\a=⟨v,116,2,l.length,aR l⟩):=fun {k a} hr=>by
  obtain⟨hk,e⟩:=MQ hr;rcases Nat.lt_or_ge k RL.length with hlt|hge
  ·refine .inl ⟨hlt,?_⟩
   simp only[List.getElem_append_left hlt]at e;exact e
  ·have:k=RL.length:=by simp at hk;omega
   subst this;refine .inr ⟨rfl,?_⟩;simpa using e
 have Vk:∀{k:Nat} {a:Row},gQ nv (RL++[(v,(L,l))]) (some k)=some a->∀g,a.v.ownBlock=some g->nv.ownBlock=some g->False:=fun {k a} ha g h1 h2=>by
  rcases cases' ha with⟨hk,rfl⟩|⟨_,rfl⟩
  ·have hlt:=((h.zy hk).lt g h1).2
   rcases hat g h2 with e|e
   ·exact h.apart (some k) none _ _ (by simp) (um hk) rfl g h1 e
   ·omega
  ·have hl1:=(ho.lt g h1)
   rcases hat g h2 with e|e
   ·have:=hlv g e;omega
   ·omega
 refine⟨fun i r hr=> ?_,fun i j a b hij ha hb' g h1 h2=> ?_⟩
 ·cases i with
  |none=>
   cases hr;simp only[List.length_append,List.length_singleton];exact hn
  |some k=>
   rcases cases' hr with⟨hk,rfl⟩|⟨_,rfl⟩
   ·exact old k hk
   ·exact jf new hB
 ·cases i with
  |none=>
   cases j with
   |none=>exact hij rfl
   |some k=>cases ha;exact Vk hb' g h2 h1
  |some k=>
   cases j with
   |none=>cases hb';exact Vk ha g h1 h2
   |some k'=>
    rcases cases' ha with⟨hk,rfl⟩|⟨e1,rfl⟩
    ·rcases cases' hb' with⟨hk',rfl⟩|⟨_,rfl⟩
     ·exact h.apart (some k) (some k') _ _ hij (um hk) (um hk') g h1 h2
     ·have:=((h.zy hk).lt g h1).2
      have:=(ho.lt g h2).1;omega
    ·rcases cases' hb' with⟨hk',rfl⟩|⟨e2,rfl⟩
     ·have:=((h.zy hk').lt g h2).2
      have:=(ho.lt g h1).1;omega
     ·exact hij (by rw[e1,e2])
theorem ah.EJ(h:ah w B (gQ lv RL)):aM w B lv RL:=by
 refine⟨h.pX,fun x hx=> ?_⟩;obtain⟨k,hk,rfl⟩:=List.getElem_of_mem hx;refine(BF (h.zy hk)).kept (Nat.le_refl _) fun b hA _=>⟨rfl,hA.2,fun e=> ?_⟩;exact h.apart (some k) none _ _ (by simp) (um hk) rfl b hA.1 e
end
theorem BI(RL:List (Value×Ru))(v:Value)(L:Int)(l:List Sy):cO (RL++[(v,(L,l))])=cO RL++[.int .i64 L,v]:=by rw[MP];rfl
theorem BJ{w:World}{L:Int}{va:Option Addr}{n d:Nat}:eO (w.alloc (.cells #[.int .i64 L,.slice va n d] 91)) (.slice (some ⟨w.heap.size,0,none⟩) 1 1) 1 [.int .i64 L,.slice va n d]:=
 ⟨⟨_,_,rfl,Nat.le_refl _⟩,rfl,by simp[Value.oneCell'],fun _=>⟨_,_,rfl,World.news_of_block (cs:= #[.int .i64 L,.slice va n d]) (t:=91) (fr:=(0,0)) (heap_alloc_new w _)⟩⟩
theorem IE{w:World}{T N:Int}{ra:Option Addr}{rc:Nat}{op a b c:Int}{R:List Ru}(hr:au w w.heap.size (.slice ra R.length rc) R)(hl:R.length<=1000)(hl2:∀q,q<R.length->(R.getD q (0,[])).2.length<=1000):
 Calls Tryz.prog 225 #[.agg #[.int .i64 T,.int .i64 N,.slice ra R.length rc,.int .i64 op,.int .i64 a,.int .i64 b,.int .i64 c]] w fun e w'=> ∃lv RL,e= .returned lv/\ah w' w.heap.size (gQ lv RL)/\(RL.map fun x=>x.2)=R/\Below w.heap.size w w':=by
 have HR:Hid (au w w.heap.size (.slice ra R.length rc) R):=hr;have H2:Hid (∀q,q<R.length->(R.getD q (0,[])).2.length<=1000):=hl2;clear hr hl2;have hB1:Below w.heap.size w (w.alloc (.cells #[.int .i64 T,.int .i64 N,.slice ra R.length rc,.int .i64 op,.int .i64 a,.int .i64 b,.int .i64 c] 207)):=(Below.refl _ _).alloc (Nat.le_refl _) _;have HB1:Hid (Below w.heap.size w (w.alloc (.cells #[.int .i64 T,.int .i64 N,.slice ra R.length rc,.int .i64 op,.int .i64 a,.int .i64 b,.int .i64 c] 207))):=hB1;clear hB1
 go_enter Tryz.func225,Tryz.ntmps225
 go_wp2_with fail
 go_loopw [3,10] (fun s3 s10 wr=> ∃(k:Nat) (lv:Value) (RL:List (Value×Ru)),lv=s3/\s10= .int .i64 k/\k<=R.length/\RL.length=k/\(RL.map fun x=>x.2)=R.take k/\ah wr w.heap.size (gQ lv RL)/\Below w.heap.size w wr) (fun _ s _=>R.length-(intOf s).toNat)
 case atStart=>exact⟨0,_,[],rfl,rfl,Nat.zero_le _,rfl,rfl,Vi _ _,HB1.out⟩
 case round=>
  obtain⟨k,lv,RL,rfl,rfl,hk,hlen,hmap,hO,hB⟩:=hrel;have HB:Hid (Below w.heap.size w wr):=hB;have HO:Hid (ah wr w.heap.size (gQ lv RL)):=hO;have HM:Hid ((RL.map fun x=>x.2)=R.take k/\RL.length=k):=⟨hmap,hlen⟩;by_cases hlt:k<R.length
  ·obtain⟨b0,o0,qy,qa,qc,hv,_,k1,k2,hsy⟩:=(HR.out.below hB).jV hlt
   cases hv;have kD:=H2.out k hlt;obtain⟨⟨L,l⟩,hx⟩:∃x,R.getD k (0,[])=x:=⟨_,rfl⟩;rw[hx]at k1 k2 hsy kD;simp only at k1 k2 hsy kD;obtain⟨n,hn⟩:∃n,l.length=n:=⟨_,rfl⟩;rw[hn]at k2 hsy kD
   have HX:Hid (R.take (k+1)=R.take k++[(L,l)]/\l.length=n):=by
    refine⟨?_,hn⟩;rw[List.take_succ_eq_append_getElem hlt]
    congr 2
    rw[<-hx];simp[List.getD,hlt]
   obtain⟨W1,hW1⟩:∃W,wr.alloc (.cells #[.int .i64 L,.slice qa n qc] 91)=W:=⟨_,rfl⟩;have hB2:Below wr.heap.size wr W1:=by rw[<-hW1];exact(Below.refl _ _).alloc (Nat.le_refl _) _
   have HB2:Hid (Below wr.heap.size wr W1):=hB2;have d0:W1.cell? ⟨wr.heap.size,0,none⟩=some (.int .i64 L):=by rw[<-hW1];simp[go_sem]
   have d1:W1.cell? ⟨wr.heap.size,1,none⟩=some (.slice qa n qc):=by rw[<-hW1];simp[go_sem]
   have cop:=Vg (w:=W1) (L:=L) (lv:= .slice qa n qc) (l:=l) (hsy.same (iH hB2)) (by omega);rw[hn]at cop;have i0:(0:Int)<=(k:Int):=Int.natCast_nonneg _;have i1:(k:Int)<(R.length:Int):=by omega
   clear hB hO hmap hx hn hsy hB2 hlen
   go_wp2_with
    (first
     |(go_at_call 228;refine cop.mono ?_;rintro e w3 ⟨ga,d,rfl,hown,hB3⟩
       have hrow:eO (w3.alloc (.cells #[.int .i64 L,.slice ga n d] 91)) (.slice (some ⟨w3.heap.size,0,none⟩) 1 1) 1 [.int .i64 L,.slice ga n d]:=BJ;have hB4:Below wr.heap.size wr (w3.alloc (.cells #[.int .i64 L,.slice ga n d] 91)):=(HB2.out.trans (hB3.mono HB2.out.size)).alloc (Nat.le_trans HB2.out.size hB3.size) _;have dz:=own_below HO.out.pX hB4 fun g hg=>(HO.out.pX.lt g hg).2;have hb4:w.heap.size<=(w3.alloc (.cells #[.int .i64 L,.slice ga n d] 91)).heap.size:=Nat.le_trans HB.out.size hB4.size;have MR:RL.length+1<=100000:=by rw[HM.out.2];omega
       clear cop)
     |(at_builtin
       refine EH rfl _ _ rfl rfl rfl rfl dz hrow hb4 MR ?_
       intro a' d' w6 hown6 hgrow hat))
   go_roundw
   case rel=>
    refine⟨k+1,_,RL++[(.slice ga n d,(L,l))],rfl,by go_num,by omega,by rw[List.length_append,HM.out.2];rfl,by rw[List.map_append,HM.out.1,HX.out.1];rfl,?_,?_⟩
    ·refine HO.out.Vj (w5:=w3.alloc (.cells #[.int .i64 L,.slice ga n d] 91)) HB.out.size hB4 ?_ hgrow ?_ (fun g hg=>(hat g hg).imp id fun e=>by omega)
     ·rw[HX.out.2]
      exact jf (hown.alloc _) HB2.out.size
     ·rw[BI]
      exact hown6
    ·exact(HB.out.trans (hB4.mono HB.out.size)).grown hgrow hb4 fun g hg=>(dz.lt g hg).1
   case measure=>simp[intOf];omega
  ·have hkk:k=R.length:=by omega
   clear hB hO hmap hlen
   go_wp2_with fail
   go_ret;exact⟨_,RL,rfl,HO.out,by rw[HM.out.1,hkk,List.take_length],HB.out⟩
section
variable{w:World}{b:Nat}{u0 u1 u2 v0 v1 v2:Value}
theorem uq(h0:w.cell? ⟨b,0,none⟩=some u0):(((w.setCell ⟨b,0,none⟩ v0).setCell ⟨b,1,none⟩ v1).setCell ⟨b,2,none⟩ v2).cell? ⟨b,0,none⟩=some v0:=by
 rw[iE (.inr (by simp)),iE (.inr (by simp))];exact World.cell?_setCell_same _ _ _ h0
theorem uw(h1:w.cell? ⟨b,1,none⟩=some u1):(((w.setCell ⟨b,0,none⟩ v0).setCell ⟨b,1,none⟩ v1).setCell ⟨b,2,none⟩ v2).cell? ⟨b,1,none⟩=some v1:=by
 rw[iE (.inr (by simp))];exact World.cell?_setCell_same _ _ _ ((iE (.inr (by simp))).trans h1)
theorem uy(h2:w.cell? ⟨b,2,none⟩=some u2):(((w.setCell ⟨b,0,none⟩ v0).setCell ⟨b,1,none⟩ v1).setCell ⟨b,2,none⟩ v2).cell? ⟨b,2,none⟩=some v2:=
 World.cell?_setCell_same _ _ _ ((iE (.inr (by simp))).trans ((iE (.inr (by simp))).trans h2))
theorem aM.qL{B:Nat}{lv:Value}{RL:List (Value×Ru)}(h:aM w B lv RL){a:Addr}(ha:a.block<B)(u:Value):aM (w.setCell a u) B lv RL:=
 ⟨BG h.own ha u,fun x hx=>(h.sym x hx).kept (by simp) fun b hA _=>⟨Below.heap_setCell _ _ _ _ (by have:=hA.1;omega),hA⟩⟩
end
theorem adR{w:World}{T N:Int}{ra:Option Addr}{rc:Nat}{op a b c:Int}{R:List Ru}{sv:Value}{IX:List Int}(hr:au w w.heap.size (.slice ra R.length rc) R)(hl2:∀q,q<R.length->(R.getD q (0,[])).2.length<=1000)(hS:aP w w.heap.size sv IX)(Vl:∀k,k<IX.length->0<=IX.getD k 0/\IX.getD k 0<(R.length:Int))(hl:IX.length<=1000):
 Calls Tryz.prog 245 #[.agg #[.int .i64 T,.int .i64 N,.slice ra R.length rc,.int .i64 op,.int .i64 a,.int .i64 b,.int .i64 c,sv]] w fun e w'=> ∃lv RL,e= .returned (.agg #[.int .i64 T,.int .i64 N,lv])/\aM w' w.heap.size lv RL/\(RL.map fun x=>x.2)=IX.map (fun i=>R.getD i.toNat (0,[]))/\Below w.heap.size w w':=by
 obtain⟨sa,sc,hsv⟩:=hS.1;subst hsv;have HR:Hid (au w w.heap.size (.slice ra R.length rc) R):=hr;have H2:Hid (∀q,q<R.length->(R.getD q (0,[])).2.length<=1000):=hl2;have HS:Hid (aP w w.heap.size (.slice sa IX.length sc) IX):=hS;have HI:Hid (∀k,k<IX.length->0<=IX.getD k 0/\IX.getD k 0<(R.length:Int)):=Vl;clear hr hl2 hS Vl;obtain⟨W0,hW0⟩:∃W,(w.alloc (.cells #[.int .i64 T,.int .i64 N,.slice ra R.length rc,.int .i64 op,.int .i64 a,.int .i64 b,.int .i64 c,.slice sa IX.length sc] 264)).alloc (.cells #[.int .i64 0,.int .i64 0,.slice none 0 0] 26)=W:=⟨_,rfl⟩
 have HB0:Hid (Below w.heap.size w W0/\W0.heap.size=w.heap.size+2):=by
  refine⟨?_,?_⟩
  ·rw[<-hW0];exact((Below.refl _ _).alloc (Nat.le_refl _) _).alloc (by simp) _
  ·rw[<-hW0];simp
 have HC:Hid (∀wq,Below W0.heap.size W0 wq->wq.cell? ⟨w.heap.size,0,none⟩=some (.int .i64 T)/\wq.cell? ⟨w.heap.size,1,none⟩=some (.int .i64 N)/\wq.cell? ⟨w.heap.size,2,none⟩=some (.slice ra R.length rc)/\wq.cell? ⟨w.heap.size,3,none⟩=some (.int .i64 op)/\wq.cell? ⟨w.heap.size,4,none⟩=some (.int .i64 a)/\wq.cell? ⟨w.heap.size,5,none⟩=some (.int .i64 b)/\wq.cell? ⟨w.heap.size,6,none⟩=some (.int .i64 c)/\wq.cell? ⟨w.heap.size,7,none⟩=some (.slice sa IX.length sc)/\
  wq.cell? ⟨w.heap.size+1,0,none⟩=some (.int .i64 0)/\wq.cell? ⟨w.heap.size+1,1,none⟩=some (.int .i64 0)/\wq.cell? ⟨w.heap.size+1,2,none⟩=some (.slice none 0 0)/\(∀o,wq.frozen? ⟨w.heap.size+1,o,none⟩=false)/\au wq w.heap.size (.slice ra R.length rc) R/\aP wq w.heap.size (.slice sa IX.length sc) IX/\Below w.heap.size w wq):=fun wq hq=>by
  have hz:=HB0.out.2;have hB:Below w.heap.size w wq:=HB0.out.1.trans (hq.mono (by omega));have cell:∀b o u,b<W0.heap.size->W0.cell? ⟨b,o,none⟩=some u->wq.cell? ⟨b,o,none⟩=some u:=fun b o u hb hu=>(hq.cell hb).trans hu;refine⟨cell _ _ _ (by omega) ?_,cell _ _ _ (by omega) ?_,cell _ _ _ (by omega) ?_,cell _ _ _ (by omega) ?_,cell _ _ _ (by omega) ?_,cell _ _ _ (by omega) ?_,cell _ _ _ (by omega) ?_,cell _ _ _ (by omega) ?_,cell _ _ _ (by omega) ?_,cell _ _ _ (by omega) ?_,cell _ _ _ (by omega) ?_,fun o=>(hq.frozen (by simp only;omega)).trans ?_,HR.out.below hB,HS.out.below hB,hB⟩<;>(rw[<-hW0];simp[go_sem])
 have x7:=(HC.out W0 (Below.refl _ _)).2.2.2.2.2.2.2.1
 go_enter Tryz.func245,Tryz.ntmps245
 go_wp2_with fail
 clear hW0 x7
 go_loopw [3,9] (fun s3 s9 wr=> ∃(k:Nat) (lv:Value) (RL:List (Value×Ru)),lv=s3/\s9= .int .i64 k/\k<=IX.length/\RL.length=k/\(RL.map fun x=>x.2)=(IX.take k).map (fun i=>R.getD i.toNat (0,[]))/\ah wr W0.heap.size (gQ lv RL)/\Below W0.heap.size W0 wr) (fun _ s _=>IX.length-(intOf s).toNat)
 case atStart=>exact⟨0,_,[],rfl,rfl,Nat.zero_le _,rfl,rfl,Vi _ _,Below.refl _ _⟩
 case round=>
  obtain⟨k,lv,RL,rfl,rfl,hk,hlen,hmap,hO,hB⟩:=hrel;have HB:Hid (Below W0.heap.size W0 wr):=hB;have HO:Hid (ah wr W0.heap.size (gQ lv RL)):=hO;have HM:Hid ((RL.map fun x=>x.2)=(IX.take k).map (fun i=>R.getD i.toNat (0,[]))/\RL.length=k):=⟨hmap,hlen⟩;have hC:=HC.out wr hB;by_cases hlt:k<IX.length
  ·obtain⟨sb,so,_,hv,_,s1⟩:=hC.2.2.2.2.2.2.2.2.2.2.2.2.2.1.2 k hlt
   cases hv;obtain⟨hi0,hi1⟩:=HI.out k hlt;obtain⟨i,hi⟩:∃i,IX.getD k 0=i:=⟨_,rfl⟩;rw[hi]at hi0 hi1 s1;obtain⟨q,rfl⟩:∃q:Nat,i=q:=⟨i.toNat,by omega⟩;have hq:q<R.length:=by omega
   obtain⟨b0,o0,qy,qa,qc,hv,_,k1,k2,hsy⟩:=hC.2.2.2.2.2.2.2.2.2.2.2.2.1.jV hq;cases hv;have kD:=H2.out q hq;obtain⟨⟨L,l⟩,hx⟩:∃x,R.getD q (0,[])=x:=⟨_,rfl⟩;rw[hx]at k1 k2 hsy kD;simp only at k1 k2 hsy kD;obtain⟨n,hn⟩:∃n,l.length=n:=⟨_,rfl⟩;rw[hn]at k2 hsy kD
   have HX:Hid ((IX.take (k+1)).map (fun i=>R.getD i.toNat (0,[]))=(IX.take k).map (fun i=>R.getD i.toNat (0,[]))++[(L,l)]/\l.length=n):=by
    refine⟨?_,hn⟩;rw[List.take_succ_eq_append_getElem hlt,List.map_append];have e:IX[k]=(q:Int):=by rw[<-hi];simp[List.getD,hlt]
    rw[e,List.map_cons,List.map_nil,Int.toNat_natCast,hx]
   have x2:=hC.2.2.1;have cop:=Vg (w:=wr) (L:=L) (lv:= .slice qa n qc) (l:=l) hsy (by omega);rw[hn]at cop;have i0:(0:Int)<=(k:Int):=Int.natCast_nonneg _;have i1:(k:Int)<(IX.length:Int):=by omega
   clear hB hO hmap hx hn hsy hlen hC hi
   go_wp2_with
    (first
     |(go_at_call 228;refine cop.mono ?_;rintro e w3 ⟨ga,d,rfl,hown,hB3⟩
       have hrow:eO (w3.alloc (.cells #[.int .i64 L,.slice ga n d] 91)) (.slice (some ⟨w3.heap.size,0,none⟩) 1 1) 1 [.int .i64 L,.slice ga n d]:=BJ;have hB4:Below wr.heap.size wr (w3.alloc (.cells #[.int .i64 L,.slice ga n d] 91)):=hB3.alloc hB3.size _;have dz:=own_below HO.out.pX hB4 fun g hg=>(HO.out.pX.lt g hg).2;have hb4:W0.heap.size<=(w3.alloc (.cells #[.int .i64 L,.slice ga n d] 91)).heap.size:=Nat.le_trans HB.out.size hB4.size;have MR:RL.length+1<=100000:=by rw[HM.out.2];omega
       clear cop)
     |(at_builtin
       refine EH rfl _ _ rfl rfl rfl rfl dz hrow hb4 MR ?_
       intro a' d' w6 hown6 hgrow hat))
   go_roundw
   case rel=>
    refine⟨k+1,_,RL++[(.slice ga n d,(L,l))],rfl,by go_num,by omega,by rw[List.length_append,HM.out.2];rfl,by rw[List.map_append,HM.out.1,HX.out.1];rfl,?_,?_⟩
    ·refine HO.out.Vj (w5:=w3.alloc (.cells #[.int .i64 L,.slice ga n d] 91)) HB.out.size hB4 ?_ hgrow ?_ (fun g hg=>(hat g hg).imp id fun e=>by omega)
     ·rw[HX.out.2]
      exact hown.alloc _
     ·rw[BI]
      exact hown6
    ·exact(HB.out.trans (hB4.mono HB.out.size)).grown hgrow hb4 fun g hg=>(dz.lt g hg).1
   case measure=>simp[intOf];omega
  ·have hkk:k=IX.length:=by omega
   obtain⟨la,lc,hlv⟩:=bK hO.pX;subst hlv;obtain⟨x0,x1,x2,x3,x4,x5,x6,x7,_,_,_,_⟩:=hC;have wi:=EI (w:=wr) (T:=T) (N:=N) (ra:=ra) (rn:=R.length) (rc:=rc) (op:=op) (a:=a) (b:=b) (c:=c) (M:=N) (oa:=la) (on:=RL.length) (oc:=lc);clear hB hO hmap hlen
   go_wp2_with
    (go_at_call 227;refine wi.mono ?_;rintro e w3 ⟨rfl,hB3⟩
     have HB3:Hid (Below W0.heap.size W0 w3):=HB.out.trans (hB3.mono HB.out.size);have HR3:Hid (aM w3 W0.heap.size (.slice la RL.length lc) RL):=HO.out.EJ.below hB3;have y0:=(HC.out w3 HB3.out).2.2.2.2.2.2.2.2.1;have y1:=(HC.out w3 HB3.out).2.2.2.2.2.2.2.2.2.1;have y2:=(HC.out w3 HB3.out).2.2.2.2.2.2.2.2.2.2.1;have BK:=(HC.out w3 HB3.out).2.2.2.2.2.2.2.2.2.2.2.1 0;have BL:=(HC.out w3 HB3.out).2.2.2.2.2.2.2.2.2.2.2.1 1;have BM:=(HC.out w3 HB3.out).2.2.2.2.2.2.2.2.2.2.2.1 2
     clear wi hB3)
   have q0:=uq (v0:= .int .i64 T) (v1:= .int .i64 N) (v2:= .slice la RL.length lc) y0;have q1:=uw (v0:= .int .i64 T) (v1:= .int .i64 N) (v2:= .slice la RL.length lc) y1;have q2:=uy (v0:= .int .i64 T) (v1:= .int .i64 N) (v2:= .slice la RL.length lc) y2;refine bodyPost_ret (v:= .agg #[.int .i64 T,.int .i64 N,.slice la RL.length lc]) (by simp[results,Tryz.results245,go_sem,q0,q1,q2]) rfl ?_;have hz:=HB0.out.2;refine⟨_,RL,rfl,(((HR3.out.qL (by simp only;omega) _).qL (by simp only;omega) _).qL (by simp only;omega) _).mono (by omega),by rw[HM.out.1,hkk,List.take_length],?_⟩;exact(((HC.out w3 HB3.out).2.2.2.2.2.2.2.2.2.2.2.2.2.2.setCell (by simp only;omega) _).setCell (by simp only;omega) _).setCell (by simp only;omega) _
end Go.Proofs.YtblkkhfdeaaidaaGreatDoor
