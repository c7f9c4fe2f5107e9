package cluster

import (
	"slices"

	"lattice/api"
	"lattice/replica"
)

// maxBytes is how many bytes a stranger's message may have.
const maxBytes = 65535

// nobody is from whom a stranger's message is.
const nobody = -1

// deed is what a choice of a kind does, and what is wrong with one of which nothing must be done.
type deed struct {
	fault func(api.Choice) api.Errno
	do    func(api.Choice) []api.Answer
}

// deeds are what choices do, by their kinds.
func (c *Cluster) deeds() map[int]deed {
	return map[int]deed{
		api.ChCall:  {fault: c.callFault, do: c.call},
		api.ChPick:  {fault: c.flightFault, do: c.pick},
		api.ChDrop:  {fault: c.flightFault, do: c.drop},
		api.ChCopy:  {fault: c.flightFault, do: c.copy},
		api.ChTick:  {fault: c.nodeFault, do: c.tick},
		api.ChWork:  {fault: c.workFault, do: c.work},
		api.ChSync:  {fault: c.nodeFault, do: c.sync},
		api.ChCrash: {fault: c.crashFault, do: c.crash},
		api.ChStart: {fault: c.nodeFault, do: c.start},
		api.ChBytes: {fault: c.bytesFault, do: c.bytes},
	}
}

// callFault: a call that was made is not made again, whatever came of it.
func (c *Cluster) callFault(x api.Choice) api.Errno {
	if !c.has(x.Call.Node) {
		return api.ErrArg
	}
	if _, again := c.called[x.Call.Req]; again {
		return api.ErrState
	}
	return api.OK
}

func (c *Cluster) flightFault(x api.Choice) api.Errno { return unless(x.N >= 0) }

func (c *Cluster) nodeFault(x api.Choice) api.Errno { return unless(c.has(x.Node)) }

func (c *Cluster) workFault(x api.Choice) api.Errno { return unless(c.has(x.Node) && x.N >= 0) }

func (c *Cluster) crashFault(x api.Choice) api.Errno {
	return unless(c.has(x.Node) && x.N >= 0 && x.M >= 0 && x.M <= api.PageSize)
}

func (c *Cluster) bytesFault(x api.Choice) api.Errno {
	return unless(c.has(x.Node) && len(x.Bytes) <= maxBytes)
}

// unless is the error of an argument that is wrong.
func unless(right bool) api.Errno {
	if !right {
		return api.ErrArg
	}
	return api.OK
}

func (c *Cluster) call(x api.Choice) []api.Answer {
	c.called[x.Call.Req] = struct{}{}
	i := x.Call.Node
	m := c.members[i]
	if !m.View().Up {
		return []api.Answer{timeout(x.Call.Req, i)}
	}
	m.open = append(m.open, x.Call.Req)
	return c.did(i, m.Call(x.Call))
}

func (c *Cluster) pick(x api.Choice) []api.Answer {
	m, e := c.net.Pick(x.N)
	if e != api.OK {
		return nil
	}
	return c.did(m.To, c.members[m.To].Message(m.From, m.Bytes)) // which is lost where that node is not up
}

func (c *Cluster) drop(x api.Choice) []api.Answer {
	c.net.Drop(x.N)
	return nil
}

func (c *Cluster) copy(x api.Choice) []api.Answer {
	c.net.Copy(x.N)
	return nil
}

func (c *Cluster) tick(x api.Choice) []api.Answer { return c.did(x.Node, c.members[x.Node].Tick()) }

func (c *Cluster) work(x api.Choice) []api.Answer {
	return c.did(x.Node, c.members[x.Node].Work(x.N))
}

func (c *Cluster) sync(x api.Choice) []api.Answer { return c.did(x.Node, c.members[x.Node].Sync()) }

// crash answers what the node will answer no more.
func (c *Cluster) crash(x api.Choice) []api.Answer {
	m := c.members[x.Node]
	if m.Crash(min(x.N, m.Waits()), x.M) != api.OK { // it is not up
		return nil
	}
	var l []api.Answer
	for _, req := range m.open {
		l = append(l, timeout(req, x.Node))
	}
	m.open = nil
	return l
}

func (c *Cluster) start(x api.Choice) []api.Answer { return c.did(x.Node, c.members[x.Node].Start()) }

func (c *Cluster) bytes(x api.Choice) []api.Answer {
	return c.did(x.Node, c.members[x.Node].Message(nobody, x.Bytes))
}

// did has what a node sent be in flight, as much as there is room for: its answers.
func (c *Cluster) did(i int, d replica.Done) []api.Answer {
	for _, o := range d.Outs {
		c.net.Send(i, o.To, o.Bytes)
	}
	m := c.members[i]
	for _, a := range d.Answers {
		m.open = slices.DeleteFunc(m.open, func(req int) bool { return req == a.Req })
	}
	return d.Answers
}

// timeout is the answer to a call of which nobody can tell any more what came of it.
func timeout(req, node int) api.Answer { return api.Answer{Req: req, Node: node, Code: api.AnTimeout} }
