package replica

import (
	"lattice/api"
	"lattice/blink"
	"lattice/fold"
	"lattice/steps"
)

// What a commit says, in Other, that was done.
const (
	donePut = 1
	doneDel = 2
)

// call does what a client asks for, or answers at once why not.
func (x *Node) call(c api.Call) {
	switch code := fault(c); {
	case code != 0:
		x.answer(c, code, api.Result{})
	case x.role == Primary:
		x.order(c)
	case isWrite(c.Op):
		x.answer(c, api.AnNotPrimary, api.Result{})
	default:
		x.read(c)
	}
}

// fault is what a call is answered that is wrong on any node; 0, if it is right.
func fault(c api.Call) int {
	switch {
	case c.Req < 1 || c.Req > api.MaxReq:
		return api.AnMalformed
	case isRight(c.Op):
		return 0
	case isRight(shortened(c.Op)):
		return api.AnKeyTooLong
	}
	return api.AnMalformed
}

// isRight tells whether an operation is not a wrong one: machines on no tree tell that ahead of having no room.
func isRight(op api.Op) bool {
	_, e := steps.New(nil).Begin(op)
	return e != api.ErrArg
}

// shortened is an operation whose keys are cut to what a key may have.
func shortened(op api.Op) api.Op {
	op.Key = op.Key[:min(len(op.Key), api.MaxKey)]
	if op.Kind == api.OpScan {
		op.Value = op.Value[:min(len(op.Value), api.MaxKey)]
	}
	return op
}

// isWrite tells whether an operation is a put or a delete.
func isWrite(op api.Op) bool { return op.Kind == api.OpPut || op.Kind == api.OpDel }

// commitOf is the record that says that a call is done.
func commitOf(c api.Call) api.Record {
	r := api.Record{Kind: api.ReCommit, Other: donePut, Req: c.Req, Key: c.Op.Key, Value: c.Op.Value}
	if c.Op.Kind == api.OpDel {
		r.Other = doneDel
	}
	return r
}

// read answers a get or a scan as of what a standby has replayed, where that is consistent, and not ahead of what was read here before.
func (x *Node) read(c api.Call) {
	point, ok := x.replay.Point()
	entries, e := blink.Entries(x.replay.Pages())
	if !ok || point == 0 || e != api.OK {
		x.answer(c, api.AnNotReady, api.Result{})
		return
	}
	if may, _ := x.reads.Read(x.id, point); !may {
		x.answer(c, api.AnNotReady, api.Result{})
		return
	}
	r, _ := fold.Answer(entries, c.Op) // of a tree, and of a right operation
	x.answer(c, api.AnOK, r)
}

// work is a step of a machine or, of a standby, a record of a worker.
func (x *Node) work(i int) {
	if x.role != Primary {
		x.replay.Work(i)
		return
	}
	if jobs := x.reign.jobs; i >= 0 && len(jobs) > 0 {
		x.step(jobs[i%len(jobs)])
	}
}

// job is a call whose machine runs: the only one of its own machines, so that it can be let go alone.
type job struct {
	call     api.Call
	machines *steps.Steps
}

// only is the number of a job's machine.
const only = 0

// begun is a job on a tree, of a right call.
func begun(t *blink.Tree, c api.Call) *job {
	j := &job{call: c, machines: steps.New(t)}
	j.machines.Begin(c.Op)
	return j
}

// step is one step: the records that it said.
func (j *job) step() []api.Record {
	rs, _ := j.machines.Step(only)
	return rs
}

func (j *job) result() (steps.Result, bool) { return j.machines.Result(only) }

func (j *job) hasResult() bool {
	_, has := j.result()
	return has
}

func (j *job) isOver() bool { return len(j.machines.Running()) == 0 }
