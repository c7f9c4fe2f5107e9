package desk

import (
	"bytes"
	"strings"

	"lattice/api"
)

// command is what the lines of one first word tell: choices of a kind (of calls: with operations of a kind), and their parameters, which it has be read from a line's words, or written to them.
type command struct {
	kind, op   int
	parameters func(words, *api.Choice)
}

// commands are all of them, by their first words.
func commands() map[string]command {
	return map[string]command{
		"put":   {api.ChCall, api.OpPut, pair},
		"del":   {api.ChCall, api.OpDel, single},
		"get":   {api.ChCall, api.OpGet, single},
		"scan":  {api.ChCall, api.OpScan, pair},
		"pick":  {api.ChPick, 0, place},
		"drop":  {api.ChDrop, 0, place},
		"copy":  {api.ChCopy, 0, place},
		"tick":  {api.ChTick, 0, node},
		"work":  {api.ChWork, 0, worker},
		"sync":  {api.ChSync, 0, node},
		"crash": {api.ChCrash, 0, crash},
		"start": {api.ChStart, 0, node},
		"bytes": {api.ChBytes, 0, stranger},
	}
}

// single are a call's, with one text.
func single(w words, x *api.Choice) {
	w.number(&x.Call.Node)
	w.number(&x.Call.Req)
	w.text(&x.Call.Op.Key)
}

// pair are a call's, with two texts.
func pair(w words, x *api.Choice) {
	single(w, x)
	w.text(&x.Call.Op.Value)
}

// place is that of a message in flight.
func place(w words, x *api.Choice) { w.number(&x.N) }

func node(w words, x *api.Choice) { w.number(&x.Node) }

func worker(w words, x *api.Choice) {
	w.number(&x.Node)
	w.number(&x.N)
}

func crash(w words, x *api.Choice) {
	w.number(&x.Node)
	w.number(&x.N)
	w.number(&x.M)
}

// stranger has bytes, which are nobody's message.
func stranger(w words, x *api.Choice) {
	w.number(&x.Node)
	s := string(x.Bytes)
	w.text(&s)
	x.Bytes = []byte(s)
}

// choiceOf is what a line says, or it gives up.
func choiceOf(line string) api.Choice {
	r := readerOf(line)
	c, ok := commands()[r.word()]
	need(ok)
	x := api.Choice{Kind: c.kind, Call: api.Call{Op: api.Op{Kind: c.op}}}
	c.parameters(r, &x)
	r.end()
	return x
}

// lineOf is what a choice's command says of it; empty, if it has none. No two commands are of the same kinds, so that it is the same whichever is looked at first.
func lineOf(x api.Choice) string {
	for name, c := range commands() {
		if c.kind == x.Kind && c.op == x.Call.Op.Kind {
			w := writer{said: []string{name}}
			c.parameters(&w, &x)
			return strings.Join(w.said, blank)
		}
	}
	return ""
}

// isSame tells whether two choices are the same.
func isSame(x, y api.Choice) bool {
	return x.Kind == y.Kind && x.Node == y.Node && x.N == y.N && x.M == y.M && x.Call == y.Call && bytes.Equal(x.Bytes, y.Bytes)
}
