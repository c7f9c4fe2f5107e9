package replica

import (
	"lattice/api"
	"lattice/ship"
	"lattice/vote"
)

// How many ticks a node waits for a primary: the greater its number the more, so that not all stand at once.
const (
	patience     = 10
	patienceEach = 3
)

// deed is what a message of a kind does, and by which kind one of a lesser epoch is answered (0: by none).
type deed struct {
	do      func(from int, m Message)
	refusal int
}

// deeds are what messages do, by their kinds.
func (x *Node) deeds() map[int]deed {
	return map[int]deed{
		Append: {do: x.takeRecords, refusal: Acked},
		Acked:  {do: x.countAck},
		Ask:    {do: x.giveVote, refusal: Given},
		Given:  {do: x.countVote},
	}
}

// deliver does what a message says, if it is one, and of another node.
func (x *Node) deliver(from int, b []byte) {
	m, e := Decode(b)
	if e != api.OK || from < 0 || from >= x.n || from == x.id {
		return
	}
	deed, epoch := x.deeds()[m.Kind], x.epoch()
	if m.Epoch > epoch && !x.follow(m.Epoch) {
		return
	}
	switch {
	case m.Epoch >= epoch:
		deed.do(from, m)
	case deed.refusal != 0:
		x.say(from, Message{Kind: deed.refusal, Epoch: epoch})
	}
}

// say has a message wait until all that the journal says now is synced.
func (x *Node) say(to int, m Message) {
	b, _ := Encode(m) // what a node says is right
	x.said = append(x.said, Out{To: to, Bytes: b})
}

// others are the numbers of all other nodes.
func (x *Node) others() []int {
	var l []int
	for i := range x.n {
		if i != x.id {
			l = append(l, i)
		}
	}
	return l
}

// canPromise tells whether the journal has room for a promise more: what is not in it must not be promised.
func (x *Node) canPromise() bool { return x.journal.has(promiseEntry) }

// promised has the journal say the voter's promise, if it is another one than it was.
func (x *Node) promised(was vote.Promise) {
	if p := x.voter.Promise(); p != was {
		x.journal.addPromise(p)
	}
}

// follow has it be a standby of a greater epoch, if it can promise that.
func (x *Node) follow(epoch int) bool {
	if !x.canPromise() {
		return false
	}
	was := x.voter.Promise()
	x.voter.See(epoch)
	x.promised(was)
	x.stepDown()
	return true
}

// stepDown has it be a standby.
func (x *Node) stepDown() {
	if x.role == Primary {
		x.abdicate()
	}
	x.role, x.tally = Standby, nil
}

// tick is a primary's word to all others; others wait for one.
func (x *Node) tick() {
	if x.role == Primary {
		x.sendRecords()
		return
	}
	x.ticks++
	if x.ticks >= patience+patienceEach*x.id {
		x.stand()
	}
}

// stand has it be a candidate of a new epoch, if it could be its primary, too: without room in its journal it would be none.
func (x *Node) stand() {
	x.ticks = 0
	if !x.journal.has(promiseEntry + stepMost) {
		return
	}
	was := x.voter.Promise()
	epoch, e := x.voter.Stand(x.id)
	if e != api.OK { // there is no greater one
		return
	}
	x.promised(was)
	x.role = Candidate
	x.tally, _ = vote.Count(x.n, epoch, x.id)
	for _, to := range x.others() {
		x.say(to, Message{Kind: Ask, Epoch: epoch, Mark: x.end()})
	}
	x.ascend()
}

// giveVote votes, or does not.
func (x *Node) giveVote(from int, m Message) {
	if !x.canPromise() {
		return
	}
	was := x.voter.Promise()
	ok := x.voter.Ask(from, m.Epoch, m.Mark, x.end())
	x.promised(was)
	if ok {
		x.ticks = 0
	}
	x.say(from, Message{Kind: Given, Epoch: m.Epoch, OK: ok})
}

// countVote counts a vote; who is no candidate has no tally.
func (x *Node) countVote(from int, m Message) {
	if m.OK {
		x.tally.Vote(from, m.Epoch)
		x.ascend()
	}
}

// ascend has a candidate be primary that has won. It sends at once, so that its ReNoop can be committed ahead of its next tick.
func (x *Node) ascend() {
	if x.tally.Won() {
		x.tally = nil
		x.rule()
		x.sendRecords()
	}
}

// takeRecords takes what a primary sent. A primary itself takes nothing: there is no other one of its epoch.
func (x *Node) takeRecords(from int, m Message) {
	if x.role == Primary {
		return
	}
	x.stepDown()
	x.ticks = 0
	last, ok := x.take(m.Mark, m.Records)
	if !ok {
		x.say(from, Message{Kind: Acked, Epoch: m.Epoch, Mark: x.end()})
		return
	}
	x.raise(min(m.Commit, last))
	x.say(from, Message{Kind: Acked, Epoch: m.Epoch, OK: true, Mark: api.Mark{LSN: last}})
}

// take takes records behind a mark, if they fit: the last LSN that was sent. Those for which the journal has no room are as if they had not been sent.
func (x *Node) take(ahead api.Mark, rs []api.Record) (int, bool) {
	kept := x.there(rs)
	if size := cutEntry + recordEntry*len(rs[kept:]); !x.journal.has(size) {
		rs = rs[:kept]
	}
	last, cut, e := ship.Take(x.log, ahead, rs)
	if e != api.OK {
		return 0, false
	}
	if cut {
		x.journal.addCut(rs[kept].LSN - 1)
	}
	for _, r := range rs[kept:] {
		x.journal.addRecord(r)
	}
	return last, true
}

// there is how many of some records, from the first on, the log has.
func (x *Node) there(rs []api.Record) int {
	for i, r := range rs {
		if has, e := x.log.Get(r.LSN); e != api.OK || has.Epoch != r.Epoch {
			return i
		}
	}
	return len(rs)
}

// raise has all up to an LSN be committed, and be replayed.
func (x *Node) raise(commit int) {
	x.commit = max(x.commit, commit)
	fed := x.replay.Fed()
	for _, r := range x.log.From(fed+1, x.commit-fed) {
		x.replay.Feed(r)
	}
}
