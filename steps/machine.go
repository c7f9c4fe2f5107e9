package steps

import (
	"lattice/api"
	"lattice/blink"
	"lattice/key"
	"lattice/node"
	"lattice/page"
)

const (
	root      = 1 // the page at which each walk begins
	leafLevel = 0
)

// post is a page that the level above does not know yet: the key from which on it has the keys, and that level.
type post struct {
	key         string
	page, level int
}

// machine is an operation on its way.
type machine struct {
	tree      *blink.Tree
	op        api.Op
	phase     func(api.Node) []api.Record // what a step does at the node of its place: the records that it said; nil: it is over
	place     int
	key       string
	posts     []post
	looks     int // how many nodes it looked at since it was at the root, or changed something
	result    Result
	hasResult bool
}

// begun is a machine that is at work.
func begun(t *blink.Tree, op api.Op) *machine {
	m := &machine{tree: t, op: op, place: root, key: op.Key}
	m.phase = m.work
	return m
}

func (m *machine) isOver() bool { return m.phase == nil }

// step is one step: the records that it said. No walk through a tree looks at a page twice: one that does is in pages that are no tree any more, and would never end.
func (m *machine) step() []api.Record {
	n, there := m.tree.Page(m.place)
	if !there || m.looks == api.MaxPages {
		m.giveUp()
		return nil
	}
	m.looks++
	return m.phase(n)
}

// standing is where a node stands to the one that is looked for.
type standing int

const (
	tooFarLeft standing = iota
	tooFarUp
	itself
)

// standingTo tells where a node stands to the one of a level that may have a key.
func standingTo(n api.Node, k string, level int) standing {
	switch {
	case node.Further(n, k):
		return tooFarLeft
	case n.Level > level:
		return tooFarUp
	}
	return itself
}

// work is the phase up to the result. A put for which there is no room falls through to parting.
func (m *machine) work(n api.Node) []api.Record {
	switch standingTo(n, m.key, leafLevel) {
	case tooFarLeft:
		m.place = n.Right
		return nil
	case tooFarUp:
		m.goDown(n, m.key)
		return nil
	case itself:
		if m.op.Kind != api.OpPut || m.hasRoom(n) {
			return m.do(n)
		}
		fallthrough
	default:
		return m.part(n)
	}
}

// posting is the phase behind the result: of each page that was parted off, the level above is told. A post for which there is no room falls through to parting.
func (m *machine) posting(n api.Node) []api.Record {
	if len(m.posts) == 0 {
		m.end()
		return nil
	}
	switch p := m.posts[0]; standingTo(n, p.key, p.level) {
	case tooFarLeft:
		m.place = n.Right
		return nil
	case tooFarUp:
		m.goDown(n, p.key)
		return nil
	case itself:
		if _, e := node.Post(n, p.key, p.page); e != api.ErrFull {
			return m.settle(n, p, e)
		}
		fallthrough
	default:
		return m.part(n)
	}
}

// goDown has the machine's place be the kid of a key, which is empty where a scan has no bound.
func (m *machine) goDown(n api.Node, k string) {
	if k == "" {
		m.place = n.Kids[0]
		return
	}
	m.place, _ = node.Kid(n, k) // of a node that is not right 0, which is no page
}

// hasRoom tells whether a leaf has room for what a put says.
func (m *machine) hasRoom(n api.Node) bool {
	_, e := node.Put(n, m.op.Key, m.op.Value)
	return e != api.ErrFull
}

// do does the operation on its leaf.
func (m *machine) do(n api.Node) []api.Record {
	if m.op.Kind == api.OpScan {
		m.scan(n)
		return nil
	}
	value, found, e := node.Get(n, m.op.Key)
	if e != api.OK {
		m.giveUp()
		return nil
	}
	switch {
	case m.op.Kind == api.OpGet:
		m.answer(Result{Result: api.Result{Found: found, Value: value}})
		m.end()
		return nil
	case m.op.Kind == api.OpPut:
		return m.write(found, api.Record{Kind: api.RePut, Page: m.place, Key: m.op.Key, Value: m.op.Value})
	case found:
		return m.write(found, api.Record{Kind: api.ReDel, Page: m.place, Key: m.op.Key})
	}
	return m.write(found)
}

// write says what a put or a delete has to say; then it has its result.
func (m *machine) write(found bool, rs ...api.Record) []api.Record {
	said, ok := m.say(rs...)
	if !ok {
		m.giveUp()
		return said
	}
	m.answer(Result{Result: api.Result{Found: found}})
	m.phase = m.posting
	m.goToRoot()
	return said
}

// scan takes a leaf's entries, and goes on where the leaf ends.
func (m *machine) scan(n api.Node) {
	below := m.op.Value
	for i, k := range n.Keys {
		if key.Compare(k, m.key) >= 0 && (below == "" || key.Compare(k, below) < 0) {
			m.result.Entries = append(m.result.Entries, api.Entry{Key: k, Value: n.Vals[i]})
		}
	}
	if n.High == "" || below != "" && key.Compare(n.High, below) >= 0 {
		m.answer(m.result)
		m.end()
		return
	}
	m.key, m.place = n.High, n.Right
}

// settle posts the first post, whose node it has found: e is what node.Post told of it. One that does not belong there, or was posted already, is gone, too.
func (m *machine) settle(n api.Node, p post, e api.Errno) []api.Record {
	var said []api.Record
	if _, isKey := key.Place(n.Keys, p.key); e == api.OK && !isKey {
		var ok bool
		said, ok = m.say(api.Record{Kind: api.RePost, Page: m.place, Other: p.page, Key: p.key})
		if !ok {
			m.giveUp()
			return said
		}
	}
	m.posts = m.posts[1:]
	m.goToRoot()
	if len(m.posts) == 0 {
		m.end()
	}
	return said
}

// part parts the node of the machine's place in two.
func (m *machine) part(n api.Node) []api.Record {
	s, _ := node.Split(n) // one that is full is right, and has keys enough
	parting := m.partOther
	if m.place == root {
		parting = m.partRoot
	}
	said, ok := parting(n, s)
	if !ok {
		m.giveUp()
	}
	return said
}

// partRoot parts the root by a key into two new pages, and has it stand above them: its number must not change.
func (m *machine) partRoot(n api.Node, s string) ([]api.Record, bool) {
	a, e := m.tree.Take()
	if e != api.OK {
		return nil, false
	}
	b, e := m.tree.Take()
	if e != api.OK {
		return nil, false
	}
	left, _ := node.Left(n, s, b) // by its own parting key a node is always parted
	rest, _ := node.Rest(n, s)
	top := api.Node{Level: n.Level + 1, Keys: []string{s}, Kids: []int{a, b}}
	if page.Check(top) != api.OK { // there is no such level
		return nil, false
	}
	return m.say(renewal(a, left), renewal(b, rest), renewal(root, top))
}

// partOther parts a node by a key: what is cut off stands on a new page, to its right, which is to be posted.
func (m *machine) partOther(n api.Node, s string) ([]api.Record, bool) {
	q, e := m.tree.Take()
	if e != api.OK {
		return nil, false
	}
	rest, _ := node.Rest(n, s) // by its own parting key a node is always parted
	said, ok := m.say(renewal(q, rest), api.Record{Kind: api.ReCut, Page: m.place, Other: q, Key: s})
	if ok {
		m.posts = append(m.posts, post{key: s, page: q, level: n.Level + 1})
	}
	return said, ok
}

// renewal is the record by which a page has a node.
func renewal(i int, n api.Node) api.Record {
	n.LSN = 0
	b, _ := page.Encode(n) // a node that is not right has no page, and is refused where it is said
	return api.Record{Kind: api.ReNew, Page: i, Value: string(b)}
}

// say says records that belong together: what was said, and whether that is all of them. Where the log has no numbers left for all, none is said.
func (m *machine) say(rs ...api.Record) ([]api.Record, bool) {
	if m.tree.Last() > api.MaxLSN-len(rs) {
		return nil, false
	}
	var said []api.Record
	for _, r := range rs {
		r, e := m.tree.Say(r)
		if e != api.OK {
			return said, false
		}
		said = append(said, r)
	}
	m.looks = 0
	return said, true
}

func (m *machine) goToRoot() { m.place, m.looks = root, 0 }

func (m *machine) answer(r Result) { m.result, m.hasResult = r, true }

// giveUp ends a machine that cannot go on: what it has not done has failed.
func (m *machine) giveUp() {
	if !m.hasResult {
		m.answer(Result{Failed: true})
	}
	m.end()
}

// end has the machine be over: only its result is kept.
func (m *machine) end() { *m = machine{result: m.result, hasResult: m.hasResult} }
