package replica

import (
	"cmp"
	"slices"

	"lattice/api"
	"lattice/blink"
	"lattice/fold"
	"lattice/quorum"
	"lattice/session"
	"lattice/ship"
	"lattice/steps"
)

// stepMost is how many bytes the records of one step have at most, in a journal: those of a root that is parted.
const stepMost = 3 * recordEntry

// spare is how much of its journal a primary keeps free of its clients' records, so that a node whose disk they filled can be elected still, and mend its tree.
const spare = 16 * api.PageSize

// reign is what a node has as long as it is primary.
type reign struct {
	tree    *blink.Tree    // its log, replayed; nil, if nothing can be done on it
	senders []*ship.Sender // by the nodes' numbers
	jobs    []*job         // whose machines run, in the order in which they began
	waits   *session.Table // which calls wait for the commit
	open    map[int]open   // what they will be answered
	calls   int            // how many have waited: clients' own numbers need not differ
}

// open is a call that waits for the commit, and its result, as it was at an LSN.
type open struct {
	call   api.Call
	result api.Result
	lsn    int
}

// rule has it be primary. Where its log is no tree, or can't be mended, it is one on which nothing can be done.
func (x *Node) rule() {
	last, _ := x.log.Last()
	x.role = Primary
	x.reign = &reign{waits: session.New(), open: map[int]open{}}
	for range x.n {
		s, _ := ship.New(last + 1) // a log is far below MaxLSN
		x.reign.senders = append(x.reign.senders, s)
	}
	tree := blink.New()
	for _, r := range all(x.log) {
		if _, e := tree.Say(r); e != api.OK { // its LSN is the record's own
			return
		}
	}
	if x.mend(tree) && x.record(tree, api.Record{Kind: api.ReNoop}) {
		x.reign.tree = tree
	}
}

// mend has a tree's entries be those of the map behind the log's history, and tells whether they are.
func (x *Node) mend(tree *blink.Tree) bool {
	has, e := blink.Entries(tree.Pages())
	if e != api.OK {
		return false
	}
	h := fold.History(all(x.log))
	wants, _ := fold.Behind(h, len(h))
	for _, op := range mending(has, wants) {
		if !x.mendBy(tree, op) {
			return false
		}
	}
	return true
}

// mending are the operations that make of some entries others; keys rise in both.
func mending(has, wants []api.Entry) []api.Op {
	var ops []api.Op
	for _, e := range has {
		if _, there := find(wants, e.Key); !there {
			ops = append(ops, api.Op{Kind: api.OpDel, Key: e.Key})
		}
	}
	for _, e := range wants {
		if old, there := find(has, e.Key); !there || old != e {
			ops = append(ops, api.Op{Kind: api.OpPut, Key: e.Key, Value: e.Value})
		}
	}
	return ops
}

// find is the entry of a key, among some whose keys rise.
func find(l []api.Entry, k string) (api.Entry, bool) {
	i, there := slices.BinarySearchFunc(l, k, func(e api.Entry, k string) int { return cmp.Compare(e.Key, k) })
	if !there {
		return api.Entry{}, false
	}
	return l[i], true
}

// mendBy does an operation alone, without a commit, and tells whether it was done.
func (x *Node) mendBy(tree *blink.Tree, op api.Op) bool {
	j := begun(tree, api.Call{Op: op})
	for !j.isOver() {
		if !x.journal.has(stepMost) || !x.extend(j.step()) {
			return false
		}
	}
	r, _ := j.result()
	return !r.Failed
}

// record says a record that changes no page, and tells whether there was room for it.
func (x *Node) record(tree *blink.Tree, r api.Record) bool {
	r, e := tree.Say(r)
	return e == api.OK && x.journal.has(recordEntry) && x.extend([]api.Record{r})
}

// extend puts records that a tree said behind those of the log, and tells whether they may stand there.
func (x *Node) extend(rs []api.Record) bool {
	for _, r := range rs {
		r.Epoch = x.epoch()
		if _, e := x.log.Append(r); e != api.OK { // of a lesser epoch than the log's end
			return false
		}
		x.journal.addRecord(r)
	}
	return true
}

// abdicate answers all that waits or runs.
func (x *Node) abdicate() {
	for _, i := range x.reign.waits.Leave() {
		x.answer(x.reign.open[i].call, api.AnStale, api.Result{})
	}
	for _, j := range x.reign.jobs {
		if !j.hasResult() {
			x.answer(j.call, api.AnStale, api.Result{})
		}
	}
	x.reign = nil
}

// sendRecords sends to each other node what it lacks, as far as is known.
func (x *Node) sendRecords() {
	for _, to := range x.others() {
		ahead, rs := x.reign.senders[to].Send(x.log, MaxSend)
		x.say(to, Message{Kind: Append, Epoch: x.epoch(), Mark: ahead, Commit: x.commit, Records: rs})
	}
}

// countAck has a sender go on, or back. What is acked was sent: an LSN that the log does not have is nobody's.
func (x *Node) countAck(from int, m Message) {
	if x.role != Primary {
		return
	}
	s := x.reign.senders[from]
	last, _ := x.log.Last()
	switch {
	case !m.OK:
		s.Refused(m.Mark.LSN)
	case m.Mark.LSN <= last:
		s.Acked(m.Mark.LSN)
		x.advance()
	}
}

// advance has a primary commit what a majority has synced. What is of an epoch ahead is committed only with a record of its own: else it could be cut off still.
func (x *Node) advance() {
	if x.role != Primary {
		return
	}
	var acks []int
	for i, s := range x.reign.senders {
		_, matched := s.At()
		if i == x.id {
			matched = x.log.Flushed()
		}
		acks = append(acks, matched)
	}
	commit, _ := quorum.Commit(acks)
	if r, e := x.log.Get(commit); e == api.OK && r.Epoch == x.epoch() {
		x.raise(commit)
		x.settle()
	}
}

// await has a call be answered when all that its result was read from is committed.
func (x *Node) await(c api.Call, r api.Result) {
	last, _ := x.log.Last()
	x.reign.calls++
	x.reign.waits.Wait(x.reign.calls, last) // for which there is room: it was looked for ahead of the result
	x.reign.open[x.reign.calls] = open{call: c, result: r, lsn: last}
	x.settle()
}

// settle answers the calls that wait no longer. What was read here is read by none later as it was ahead of that.
func (x *Node) settle() {
	for _, i := range x.reign.waits.Settle(x.commit) {
		o := x.reign.open[i]
		delete(x.reign.open, i)
		if !isWrite(o.call.Op) {
			x.reads.Read(x.id, o.lsn)
		}
		x.answer(o.call, api.AnOK, o.result)
	}
}

// hasRoom tells whether the journal has room for a step of a client's.
func (x *Node) hasRoom() bool { return x.journal.has(stepMost + spare) }

// isFull tells whether there is no room for an operation.
func (x *Node) isFull(op api.Op) bool {
	return x.reign.tree == nil || x.reign.waits.Waiting() == session.MaxWaiting || isWrite(op) && !x.hasRoom()
}

// order begins what a client asks a primary for; a scan is read at once.
func (x *Node) order(c api.Call) {
	isScan := c.Op.Kind == api.OpScan
	switch {
	case x.isFull(c.Op), !isScan && len(x.reign.jobs) == steps.MaxRunning:
		x.answer(c, api.AnDiskFull, api.Result{})
	case isScan:
		x.await(c, api.Result{Entries: x.reign.tree.Scan(c.Op.Key, c.Op.Value, api.MaxRecords)})
	default:
		x.reign.jobs = append(x.reign.jobs, begun(x.reign.tree, c))
	}
}

// step does one step of a job, if there is room for what it says; else the job ends, and a page that it has parted off stays unposted.
func (x *Node) step(j *job) {
	had := j.hasResult()
	switch {
	case !had && x.isFull(j.call.Op):
		x.answer(j.call, api.AnDiskFull, api.Result{})
		x.drop(j)
		return
	case had && !x.hasRoom():
		x.drop(j)
		return
	}
	x.extend(j.step()) // of its own epoch, so that nothing is refused
	if r, has := j.result(); has && !had {
		x.finish(j.call, r)
	}
	if j.isOver() {
		x.drop(j)
	}
}

// drop has a job run no longer.
func (x *Node) drop(j *job) {
	x.reign.jobs = slices.DeleteFunc(x.reign.jobs, func(k *job) bool { return k == j })
}

// finish commits an operation that has its result, and has it be answered.
func (x *Node) finish(c api.Call, r steps.Result) {
	if r.Failed {
		x.answer(c, api.AnDiskFull, api.Result{})
		return
	}
	if isWrite(c.Op) {
		x.record(x.reign.tree, commitOf(c))
	}
	x.await(c, r.Result)
}
