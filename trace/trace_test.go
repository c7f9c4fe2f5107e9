package trace_test

import (
	"cmp"
	"fmt"
	"math"
	"math/rand"
	"slices"
	"strings"
	"testing"

	"lattice/api"
	"lattice/record"
	"lattice/trace"
)

// call is a choice by which a call is made.
func call(req, node int, op api.Op) api.Choice {
	return api.Choice{Kind: api.ChCall, Call: api.Call{Req: req, Node: node, Op: op}}
}

func putOp(k, v string) api.Op { return api.Op{Kind: api.OpPut, Key: k, Value: v} }

func delOp(k string) api.Op { return api.Op{Kind: api.OpDel, Key: k} }

func getOp(k string) api.Op { return api.Op{Kind: api.OpGet, Key: k} }

func scanOp(from, below string) api.Op { return api.Op{Kind: api.OpScan, Key: from, Value: below} }

// wrote is the record of a put.
func wrote(req int, k, v string) api.Record {
	return api.Record{LSN: req, Epoch: 1, Kind: api.ReCommit, Other: 1, Req: req, Key: k, Value: v}
}

// erased is the record of a delete.
func erased(req int, k string) api.Record {
	return api.Record{LSN: req, Epoch: 1, Kind: api.ReCommit, Other: 2, Req: req, Key: k}
}

func records(l ...api.Record) []api.Record { return l }

func answers(l ...api.Answer) []api.Answer { return l }

func answer(req, node, code int, r api.Result) api.Answer {
	return api.Answer{Req: req, Node: node, Code: code, Result: r}
}

// ok is the answer of a write that is done.
func ok(req, node int) api.Answer { return answer(req, node, api.AnOK, api.Result{}) }

// read is the answer of a get that found something.
func read(req, node int, v string) api.Answer {
	return answer(req, node, api.AnOK, api.Result{Found: true, Value: v})
}

// scanned is the answer of a scan.
func scanned(req, node int, l ...api.Entry) api.Answer {
	return answer(req, node, api.AnOK, api.Result{Entries: l})
}

func want(t *testing.T, why string, l []trace.Seen, rule, step int) {
	t.Helper()
	if n, s, e := trace.Check(l); n != rule || s != step || e != api.OK {
		t.Errorf("%s: rule %d, step %d, %v, not rule %d, step %d", why, n, s, e, rule, step)
	}
}

// 26.1: each rule.

func TestNoRuleIsBroken(t *testing.T) {
	ax := records(wrote(1, "a", "x"))
	moved := records(api.Record{LSN: 9, Epoch: 4, Kind: api.ReCommit, Other: 1, Req: 1, Key: "a", Value: "x"})
	for why, l := range map[string][]trace.Seen{
		"no step":                             nil,
		"an empty list":                       {},
		"a step of nothing":                   {{}},
		"a call":                              {{Choice: call(1, 0, putOp("a", "x"))}},
		"a put":                               {{Choice: call(1, 0, putOp("a", "x"))}, {H: ax}, {Answers: answers(ok(1, 0)), H: ax}},
		"a put at one step":                   {{Choice: call(1, 0, putOp("a", "x")), Answers: answers(ok(1, 0)), H: ax}},
		"a put that found its key":            {{Choice: call(1, 0, putOp("a", "x")), Answers: answers(answer(1, 0, api.AnOK, api.Result{Found: true})), H: ax}},
		"a put with empty entries":            {{Choice: call(1, 0, putOp("a", "x")), Answers: answers(answer(1, 0, api.AnOK, api.Result{Entries: []api.Entry{}})), H: ax}},
		"a put of no value":                   {{Choice: call(1, 0, putOp("a", "")), Answers: answers(ok(1, 0)), H: records(wrote(1, "a", ""))}},
		"a put that is open":                  {{Choice: call(1, 0, putOp("a", "x")), H: ax}, {H: ax}},
		"a put whose time is out":             {{Choice: call(1, 0, putOp("a", "x")), Answers: answers(answer(1, 0, api.AnTimeout, api.Result{}))}, {H: ax}},
		"a put that is stale":                 {{Choice: call(1, 0, putOp("a", "x")), H: ax}, {Answers: answers(answer(1, 0, api.AnStale, api.Result{})), H: ax}},
		"a put that is not ready":             {{Choice: call(1, 0, putOp("a", "x")), Answers: answers(answer(1, 0, api.AnNotReady, api.Result{})), H: ax}},
		"a put that is refused, and not done": {{Choice: call(1, 0, putOp("a", "x")), Answers: answers(answer(1, 0, api.AnNotPrimary, api.Result{}))}, {}},
		"a delete":                            {{Choice: call(1, 0, delOp("a")), Answers: answers(ok(1, 0)), H: records(erased(1, "a"))}},
		"other LSNs and epochs":               {{Choice: call(1, 0, putOp("a", "x")), H: ax}, {H: moved}, {Answers: answers(ok(1, 0)), H: ax}},
		"records of other kinds":              {{Choice: call(1, 0, putOp("a", "x")), H: records(api.Record{LSN: 1, Kind: api.ReNoop}, ax[0], api.Record{Kind: api.ReCommit, Req: 7}, api.Record{LSN: 2, Kind: api.RePut, Page: 1, Key: "z"})}, {H: ax}},
		"a get of nothing":                    {{Choice: call(1, 0, getOp("a")), Answers: answers(ok(1, 0))}},
		"a get of what is there":              {{Choice: call(1, 0, putOp("a", "x")), H: ax}, {Choice: call(2, 5, getOp("a")), Answers: answers(read(2, 5, "x")), H: ax}},
		"a get of what was there ahead":       {{Choice: call(1, 0, putOp("a", "x")), H: ax}, {Choice: call(2, 5, getOp("a")), Answers: answers(ok(2, 5)), H: ax}},
		"reads of two nodes, the one behind":  {{Choice: call(1, 0, putOp("a", "x")), H: ax}, {Choice: call(2, 5, getOp("a")), Answers: answers(read(2, 5, "x")), H: ax}, {Choice: call(3, 4, getOp("a")), Answers: answers(ok(3, 4)), H: ax}},
		"a scan of nothing":                   {{Choice: call(1, 0, scanOp("", "")), Answers: answers(ok(1, 0))}},
		"a scan":                              {{Choice: call(1, 0, putOp("a", "x")), H: ax}, {Choice: call(2, 0, scanOp("a", "b")), Answers: answers(scanned(2, 0, api.Entry{Key: "a", Value: "x"})), H: ax}},
		"a Req that is called twice":          {{Choice: call(1, 0, putOp("a", "x"))}, {Choice: call(1, 3, getOp("b"))}, {Answers: answers(ok(1, 0)), H: ax}},
		"a wrong call, refused":               {{Choice: call(-7, -2, api.Op{}), Answers: answers(answer(-7, -2, api.AnMalformed, api.Result{}))}},
		"a wrong call, done with no result":   {{Choice: call(math.MinInt, math.MaxInt, api.Op{Kind: 9}), Answers: answers(ok(math.MinInt, math.MaxInt))}},
		"two answers at one step":             {{Choice: call(1, 0, getOp("a"))}, {Choice: call(2, 1, getOp("a"))}, {Answers: answers(ok(2, 1), ok(1, 0))}},
		"choices of all kinds":                {{Choice: api.Choice{Kind: api.ChPick, Call: api.Call{Req: 1}}}, {Choice: api.Choice{Kind: api.ChDrop}}, {Choice: api.Choice{Kind: api.ChTick, Node: -1}}, {Choice: api.Choice{Kind: api.ChCrash, Node: math.MinInt}}, {Choice: api.Choice{Kind: 99}}, {Choice: call(1, 0, getOp("a")), Answers: answers(ok(1, 0))}},
	} {
		want(t, why, l, 0, 0)
	}
}

func TestEachRule(t *testing.T) {
	ax, bx := wrote(1, "a", "x"), wrote(2, "b", "x")
	puts := []trace.Seen{{Choice: call(1, 0, putOp("a", "x"))}, {Choice: call(2, 1, putOp("b", "x"))}}
	step := func(h []api.Record, l ...api.Answer) trace.Seen { return trace.Seen{Answers: l, H: h} }
	for _, c := range []struct {
		why  string
		l    []trace.Seen
		rule int
	}{
		{"a Req twice in H", append(puts, step(records(ax, bx, ax))), 1},
		{"a Req twice, in two ways", append(puts, step(records(ax, wrote(1, "b", "x")))), 1},
		{"an H that is shorter", append(puts, step(records(ax, bx)), step(records(ax))), 1},
		{"an H that is none any more", append(puts, step(records(ax)), step(nil)), 1},
		{"an H in another order", append(puts, step(records(ax, bx)), step(records(bx, ax))), 1},
		{"an H that begins otherwise", append(puts, step(records(ax)), step(records(bx, ax))), 1},
		{"an H with another value", append(puts, step(records(ax)), step(records(wrote(1, "a", "y")))), 1},
		{"an H whose record is not right any more", append(puts, step(records(ax)), step(records(api.Record{Kind: api.ReCommit, Other: 1, Req: 1, Key: "a", Value: "x"}))), 1},

		{"an answer of no call", append(puts, step(nil, ok(3, 0))), 2},
		{"an answer of Req 0", append(puts, step(nil, ok(0, 0))), 2},
		{"an answer ahead of its call", []trace.Seen{step(nil, ok(1, 0)), puts[0]}, 2},
		{"an answer by another node", append(puts, step(records(ax), ok(1, 1))), 2},
		{"an answer by another node, refused", append(puts, step(nil, answer(1, 1, api.AnNotPrimary, api.Result{}))), 2},
		{"an answer of the second call of its Req", append(puts, trace.Seen{Choice: call(1, 3, getOp("a")), Answers: answers(ok(1, 3))}), 2},
		{"an answer twice at one step", append(puts, step(records(ax), ok(1, 0), ok(1, 0))), 2},
		{"an answer again", append(puts, step(records(ax), ok(1, 0)), step(records(ax), ok(1, 0))), 2},
		{"an answer again, another one", append(puts, step(nil, answer(1, 0, api.AnTimeout, api.Result{})), step(records(ax), ok(1, 0))), 2},
		{"a code of none", append(puts, step(nil, answer(1, 0, 0, api.Result{}))), 2},
		{"a code below", append(puts, step(nil, answer(1, 0, -1, api.Result{}))), 2},
		{"a code above", append(puts, step(nil, answer(1, 0, api.AnMalformed+1, api.Result{}))), 2},
		{"a ChCall's Req of another kind of choice", []trace.Seen{{Choice: api.Choice{Kind: api.ChPick, Call: api.Call{Req: 1}}, Answers: answers(ok(1, 0))}}, 2},

		{"a put that is not in H", append(puts, step(nil, ok(1, 0))), 3},
		{"a put, and another one is in H", append(puts, step(records(bx), ok(1, 0))), 3},
		{"a delete that is not in H", append(puts, trace.Seen{Choice: call(3, 0, delOp("a")), Answers: answers(ok(3, 0))}), 3},
		{"a put whose record is not right", append(puts, step(records(api.Record{Kind: api.ReCommit, Other: 1, Req: 1, Key: "a", Value: "x"}), ok(1, 0))), 3},
		{"a put that comes into H later", append(puts, step(nil, ok(1, 0)), step(records(ax))), 3},

		{"a record of no call", append(puts, step(records(wrote(3, "a", "x")))), 4},
		{"a record ahead of its call", []trace.Seen{step(records(ax)), puts[0]}, 4},
		{"a record of another key", append(puts, step(records(wrote(1, "b", "x")))), 4},
		{"a record of another value", append(puts, step(records(wrote(1, "a", "y")))), 4},
		{"a delete of a put", append(puts, step(records(erased(1, "a")))), 4},
		{"a delete of a put of no value", []trace.Seen{{Choice: call(1, 0, putOp("a", ""))}, {H: records(erased(1, "a"))}}, 4},
		{"a put of a delete", []trace.Seen{{Choice: call(1, 0, delOp("a"))}, {H: records(wrote(1, "a", ""))}}, 4},
		{"a delete with a value", []trace.Seen{{Choice: call(1, 0, api.Op{Kind: api.OpDel, Key: "a", Value: "x"})}, {H: records(erased(1, "a"))}}, 4},
		{"a record of a get", []trace.Seen{{Choice: call(1, 0, getOp("a"))}, {H: records(wrote(1, "a", ""))}}, 4},
		{"a delete's record of a scan", []trace.Seen{{Choice: call(1, 0, scanOp("a", ""))}, {H: records(erased(1, "a"))}}, 4},
		{"a record of a wrong call", []trace.Seen{{Choice: call(1, 0, api.Op{Kind: 7, Key: "a", Value: "x"})}, {H: records(ax)}}, 4},
		{"a put that was refused ahead", append(puts, step(nil, answer(1, 0, api.AnNotPrimary, api.Result{})), step(records(ax))), 4},
		{"a put that was refused long ahead", append(puts, step(nil, answer(1, 0, api.AnDiskFull, api.Result{})), step(nil), step(nil), step(records(bx, ax))), 4},
		{"a put that is refused at once", append(puts, step(records(ax), answer(1, 0, api.AnKeyTooLong, api.Result{}))), 4},
		{"a put that is refused later", append(puts, step(records(ax)), step(records(ax), answer(1, 0, api.AnMalformed, api.Result{}))), 4},
		{"a put that is refused later, of a longer H", append(puts, step(records(ax, bx)), step(records(ax, bx), answer(1, 0, api.AnDiskFull, api.Result{}))), 4},

		{"a get of what was never there", append(puts, trace.Seen{Choice: call(3, 0, getOp("a")), Answers: answers(read(3, 0, "x"))}), 5},
		{"a get of another value", append(puts, step(records(ax)), trace.Seen{Choice: call(3, 0, getOp("a")), Answers: answers(read(3, 0, "y")), H: records(ax)}), 5},
		{"a get with a value that is not found", append(puts, step(records(ax)), trace.Seen{Choice: call(3, 0, getOp("a")), Answers: answers(answer(3, 0, api.AnOK, api.Result{Value: "x"})), H: records(ax)}), 5},
		{"a get with entries", append(puts, trace.Seen{Choice: call(3, 0, getOp("c")), Answers: answers(scanned(3, 0, api.Entry{Key: "c"}))}), 5},
		{"a scan that lacks one", append(puts, step(records(ax, bx)), trace.Seen{Choice: call(3, 0, scanOp("", "")), Answers: answers(scanned(3, 0, api.Entry{Key: "b", Value: "x"})), H: records(ax, bx)}), 5},
		{"a scan in another order", append(puts, step(records(ax, bx)), trace.Seen{Choice: call(3, 0, scanOp("", "")), Answers: answers(scanned(3, 0, api.Entry{Key: "b", Value: "x"}, api.Entry{Key: "a", Value: "x"})), H: records(ax, bx)}), 5},
		{"a read that goes back", append(puts, step(records(ax)), trace.Seen{Choice: call(3, 0, getOp("a")), Answers: answers(read(3, 0, "x")), H: records(ax)}, trace.Seen{Choice: call(4, 0, getOp("a")), Answers: answers(ok(4, 0)), H: records(ax)}), 5},
		{"a read that goes back at one step", append(puts, trace.Seen{Choice: call(3, 0, getOp("a"))}, trace.Seen{Choice: call(4, 0, scanOp("", "")), Answers: answers(read(3, 0, "x"), ok(4, 0)), H: records(ax)}), 5},

		{"a put with a value", append(puts, step(records(ax), read(1, 0, "x"))), 6},
		{"a put with a value, not found", append(puts, step(records(ax), answer(1, 0, api.AnOK, api.Result{Value: "x"}))), 6},
		{"a put with entries", append(puts, step(records(ax), scanned(1, 0, api.Entry{}))), 6},
		{"a delete with entries", []trace.Seen{{Choice: call(1, 0, delOp("a")), Answers: answers(scanned(1, 0, api.Entry{Key: "a"})), H: records(erased(1, "a"))}}, 6},
		{"a refusal that found something", append(puts, step(nil, answer(1, 0, api.AnNotPrimary, api.Result{Found: true}))), 6},
		{"a refusal with a value", append(puts, step(nil, answer(1, 0, api.AnStale, api.Result{Value: "x"}))), 6},
		{"a refusal with entries", append(puts, step(nil, answer(1, 0, api.AnTimeout, api.Result{Entries: make([]api.Entry, 1)}))), 6},
		{"a read's refusal that found something", []trace.Seen{{Choice: call(1, 0, getOp("a")), Answers: answers(answer(1, 0, api.AnNotReady, api.Result{Found: true}))}}, 6},
		{"a scan's refusal with entries", []trace.Seen{{Choice: call(1, 0, scanOp("", "")), Answers: answers(answer(1, 0, api.AnMalformed, api.Result{Entries: make([]api.Entry, 1)}))}}, 6},
	} {
		at := len(c.l) - 1
		switch c.why { // which are broken ahead of their last step
		case "an answer ahead of its call", "a record ahead of its call":
			at = 0
		case "a put that comes into H later":
			at = 2
		}
		want(t, c.why, c.l, c.rule, at)
		want(t, c.why+", behind some steps", append(slices.Repeat([]trace.Seen{{}}, 3), c.l...), c.rule, at+3)
		want(t, c.why+", ahead of some steps that break all", append(slices.Clone(c.l[:at+1]), trace.Seen{Answers: answers(ok(99, 9)), H: records(erased(5, "z"), erased(5, "z"))}), c.rule, at)
		want(t, c.why+", and nothing of it yet", c.l[:at], 0, 0)
	}
}

// Floors are each node's own, and are 0 again from each ChCrash and ChStart of it on.
func TestFloors(t *testing.T) {
	h := records(wrote(1, "a", "x"), wrote(2, "a", "y"), wrote(3, "a", "z"))
	begin := []trace.Seen{{Choice: call(1, 0, putOp("a", "x"))}, {Choice: call(2, 0, putOp("a", "y"))}, {Choice: call(3, 0, putOp("a", "z")), H: h}, {Choice: call(4, 5, getOp("a")), Answers: answers(read(4, 5, "y")), H: h}}
	for _, between := range []struct {
		choice api.Choice
		again  bool
	}{
		{api.Choice{}, false}, {api.Choice{Kind: api.ChCrash, Node: 5}, true}, {api.Choice{Kind: api.ChStart, Node: 5}, true}, {api.Choice{Kind: api.ChCrash, Node: 4}, false}, {api.Choice{Kind: api.ChStart}, false}, {api.Choice{Kind: api.ChSync, Node: 5}, false}, {api.Choice{Kind: api.ChTick, Node: 5}, false}, {call(9, 5, getOp("b")), false},
	} {
		for _, c := range []struct {
			node  int
			value string
			back  bool // whether it goes back
		}{{5, "x", true}, {5, "y", false}, {5, "z", false}, {4, "x", false}, {0, "x", false}, {-5, "x", false}} {
			l := append(slices.Clone(begin), trace.Seen{Choice: between.choice, H: h}, trace.Seen{Choice: call(6, c.node, getOp("a")), Answers: answers(read(6, c.node, c.value)), H: h})
			if rule := 5; c.back && !between.again {
				want(t, fmt.Sprint(between, c), l, rule, 5)
			} else {
				want(t, fmt.Sprint(between, c), l, 0, 0)
			}
			if between.choice.Kind == api.ChCrash && between.choice.Node == 5 { // at that step already
				l = append(slices.Clone(begin), trace.Seen{Choice: call(6, c.node, getOp("a")), H: h}, trace.Seen{Choice: between.choice, Answers: answers(read(6, c.node, c.value)), H: h})
				want(t, fmt.Sprint("at once ", between, c), l, 0, 0)
			}
		}
	}
	// The floor is the least beginning that agrees: a get of what nothing was written of leaves it where it is.
	l := append(slices.Clone(begin), trace.Seen{Choice: call(7, 4, getOp("q")), Answers: answers(ok(7, 4)), H: h}, trace.Seen{Choice: call(8, 4, getOp("a")), Answers: answers(ok(8, 4)), H: h})
	want(t, "the least beginning", l, 0, 0)
	// A refused read says nothing of a floor, nor does a write.
	l = []trace.Seen{{Choice: call(1, 0, putOp("a", "x")), Answers: answers(ok(1, 0)), H: h[:1]}, {Choice: call(2, 0, getOp("a")), Answers: answers(answer(2, 0, api.AnNotReady, api.Result{})), H: h[:1]}, {Choice: call(3, 0, getOp("a")), Answers: answers(ok(3, 0)), H: h[:1]}}
	want(t, "no floor", l, 0, 0)
}

// Several rules at one step, in the order that the chapter names.
func TestOrderOfRules(t *testing.T) {
	begin := []trace.Seen{{Choice: call(1, 0, putOp("a", "x"))}, {Choice: call(2, 0, putOp("b", "x"))}, {Choice: call(3, 0, getOp("a"))}, {Choice: call(4, 0, getOp("a"))}}
	unknown := ok(9, 0)                                            // rule 2
	undone := ok(1, 0)                                             // rule 3
	undoneMore := read(1, 0, "x")                                  // rules 3 and 6
	wrong := read(3, 0, "q")                                       // rule 5
	refused := answer(4, 0, api.AnStale, api.Result{Found: true})  // rule 6
	fine := answer(2, 0, api.AnTimeout, api.Result{})              // none
	twice := records(wrote(7, "a", "x"), wrote(7, "a", "x"))       // rules 1 and 4
	stranger := records(wrote(7, "a", "x"))                        // rule 4
	other := answer(9, 0, 99, api.Result{Found: true, Value: "x"}) // rule 2, and 6
	for _, c := range []struct {
		l    []api.Answer
		h    []api.Record
		rule int
	}{
		{answers(unknown, undone, wrong, refused), twice, 2},
		{answers(undone, unknown, wrong, refused), twice, 3},
		{answers(undoneMore), twice, 3},
		{answers(wrong, undone, unknown, refused), twice, 5},
		{answers(refused, wrong, undone, unknown), twice, 6},
		{answers(fine, refused, wrong), twice, 6},
		{answers(other, undone), twice, 2},
		{answers(fine), twice, 1},
		{answers(fine), stranger, 4},
		{answers(fine), records(wrote(2, "b", "x")), 0},
		{nil, twice, 1},
		{nil, stranger, 4},
	} {
		l := append(slices.Clone(begin), trace.Seen{Answers: c.l, H: c.h})
		at := len(begin)
		if c.rule == 0 {
			at = 0
		}
		want(t, fmt.Sprint(c), l, c.rule, at)
	}
	// Of two steps the first one counts, whatever its rule.
	want(t, "two steps", append(slices.Clone(begin), trace.Seen{H: stranger}, trace.Seen{Answers: answers(unknown)}), 4, 4)
}

// 26.1: how long a trace may be.

func wantLong(t *testing.T, why string, l []trace.Seen, long bool) {
	t.Helper()
	rule, step, e := trace.Check(l)
	if long && (e != api.ErrLong || rule != 0 || step != 0) || !long && e != api.OK {
		t.Errorf("%s: %d, %d, %v", why, rule, step, e)
	}
}

func TestLongTraces(t *testing.T) {
	const most = api.MaxBytes / 256
	if most != 4096 {
		t.Fatal(most)
	}
	for _, n := range []int{most - 1, most, most + 1, 2 * most} {
		wantLong(t, fmt.Sprint(n, " steps"), make([]trace.Seen, n), n > most)
		for at := range 3 {
			l := make([]trace.Seen, 3)
			l[at].Answers = make([]api.Answer, n)
			wantLong(t, fmt.Sprint(n, " answers"), l, n > most)
			l = make([]trace.Seen, 3)
			l[at].H = make([]api.Record, n)
			wantLong(t, fmt.Sprint(n, " records"), l, n > most)
			l[0].Answers = answers(ok(9, 9)) // it is looked at ahead of all rules
			wantLong(t, fmt.Sprint(n, " records, and a rule that is broken"), l, n > most)
		}
	}
	// As many of all as may be, and no rule is broken; then one is, at the very last.
	var h []api.Record
	l := make([]trace.Seen, most)
	for i := range l {
		k := fmt.Sprint("k", i)
		l[i].Choice = call(i+1, i%3, putOp(k, ""))
		h = append(h, wrote(i+1, k, ""))
	}
	for i := range l {
		l[most-1].Answers = append(l[most-1].Answers, ok(i+1, i%3))
	}
	l[most-1].H = h
	want(t, "as many as may be", l, 0, 0)
	l[most-1].Answers[most-1].Node++
	want(t, "as many as may be, and the last one is wrong", l, 2, most-1)
	if got := trace.Open(make([]trace.Seen, most+1)); len(got) != 0 {
		t.Error(got)
	}
	if got := trace.Acked(l); len(got) != most {
		t.Error(len(got))
	}
}

// 26.2: Open and Acked.

func TestOpenAndAcked(t *testing.T) {
	for why, c := range map[string]struct {
		l           []trace.Seen
		open, acked []int
	}{
		"nothing":               {nil, nil, nil},
		"a step of nothing":     {[]trace.Seen{{}}, nil, nil},
		"calls":                 {[]trace.Seen{{Choice: call(9, 0, putOp("a", "x"))}, {Choice: call(2, 1, getOp("a"))}, {Choice: call(5, 0, delOp("a"))}, {Choice: call(-1, 0, api.Op{})}}, []int{9, 2, 5, -1}, nil},
		"calls made again":      {[]trace.Seen{{Choice: call(9, 0, putOp("a", "x"))}, {Choice: call(9, 0, putOp("a", "x"))}, {Choice: call(2, 0, getOp("a"))}, {Choice: call(9, 1, getOp("a"))}}, []int{9, 2}, nil},
		"another choice's call": {[]trace.Seen{{Choice: api.Choice{Kind: api.ChTick, Call: api.Call{Req: 3}}}}, nil, nil},
		"answers of each code":  {[]trace.Seen{{Choice: call(1, 0, putOp("a", "x"))}, {Choice: call(2, 0, putOp("a", "x"))}, {Choice: call(3, 0, putOp("a", "x"))}, {Answers: answers(answer(2, 0, api.AnTimeout, api.Result{}), answer(3, 0, 99, api.Result{}))}}, []int{1}, nil},
		"in the order of the answers": {[]trace.Seen{{Choice: call(1, 0, putOp("a", "x"))}, {Choice: call(2, 0, delOp("a"))}, {Choice: call(3, 0, getOp("a"))}, {Choice: call(4, 0, scanOp("", ""))}, {Choice: call(5, 0, api.Op{Kind: 5})},
			{Answers: answers(ok(3, 0), ok(2, 0), ok(5, 0))}, {Answers: answers(ok(4, 0), ok(1, 0))}}, nil, []int{2, 1}},
		"at the step of the call":          {[]trace.Seen{{Choice: call(1, 0, putOp("a", "x")), Answers: answers(ok(1, 0))}}, nil, []int{1}},
		"answers of no call":               {[]trace.Seen{{Answers: answers(ok(7, 0))}, {Choice: call(1, 0, putOp("a", "x")), Answers: answers(ok(8, 0))}}, []int{1}, nil},
		"answers ahead of their call":      {[]trace.Seen{{Answers: answers(ok(1, 0))}, {Choice: call(1, 0, putOp("a", "x"))}}, []int{1}, nil},
		"the op of the first of the calls": {[]trace.Seen{{Choice: call(1, 0, getOp("a"))}, {Choice: call(1, 0, putOp("a", "x"))}, {Answers: answers(ok(1, 0))}}, nil, nil},
		"answers twice":                    {[]trace.Seen{{Choice: call(1, 0, putOp("a", "x"))}, {Answers: answers(ok(1, 0), ok(1, 0))}}, nil, []int{1, 1}},
	} {
		if got := trace.Open(c.l); !slices.Equal(got, c.open) {
			t.Errorf("%s: Open: %v, not %v", why, got, c.open)
		}
		if got := trace.Acked(c.l); !slices.Equal(got, c.acked) {
			t.Errorf("%s: Acked: %v, not %v", why, got, c.acked)
		}
	}
}

// The rules once more, as plainly as the chapter has them: of each step all steps ahead are gone through again.

func historyOf(l []api.Record) []api.Record {
	var h []api.Record
	for _, r := range l {
		if r.Kind == api.ReCommit && record.Check(r) == api.OK {
			h = append(h, r)
		}
	}
	return h
}

// callAt is the call of a Req that was made at a step or ahead.
func callAt(l []trace.Seen, step, req int) (api.Call, bool) {
	for _, s := range l[:step+1] {
		if s.Choice.Kind == api.ChCall && s.Choice.Call.Req == req {
			return s.Choice.Call, true
		}
	}
	return api.Call{}, false
}

// codesAt are the codes of all answers of a Req at a step, of its answers only some, or ahead.
func codesAt(l []trace.Seen, step, some, req int) []int {
	var codes []int
	for i, s := range l[:step+1] {
		for k, a := range s.Answers {
			if a.Req == req && (i < step || k < some) {
				codes = append(codes, a.Code)
			}
		}
	}
	return codes
}

// gives is what a read gives of the map behind some writes.
func gives(h []api.Record, op api.Op) api.Result {
	m := map[string]string{}
	for _, r := range h {
		if r.Other == 1 {
			m[r.Key] = r.Value
		} else {
			delete(m, r.Key)
		}
	}
	if op.Kind == api.OpGet {
		v, found := m[op.Key]
		return api.Result{Found: found, Value: v}
	}
	var x api.Result
	for k, v := range m {
		if k >= op.Key && (op.Value == "" || k < op.Value) {
			x.Entries = append(x.Entries, api.Entry{Key: k, Value: v})
		}
	}
	slices.SortFunc(x.Entries, func(a, b api.Entry) int { return cmp.Compare(a.Key, b.Key) })
	return x
}

func same(a, b api.Result) bool {
	return a.Found == b.Found && a.Value == b.Value && slices.Equal(a.Entries, b.Entries)
}

// leastFrom is the least beginning of H, from a floor on, that gives a result; -1, if there is none.
func leastFrom(h []api.Record, op api.Op, x api.Result, floor int) int {
	for n := floor; n <= len(h); n++ {
		if same(gives(h[:n], op), x) {
			return n
		}
	}
	return -1
}

// floorAt is a node's floor ahead of an answer, in a trace without a broken rule up to there.
func floorAt(l []trace.Seen, step, some, node int) int {
	floor := 0
	for i, s := range l[:step+1] {
		if (s.Choice.Kind == api.ChCrash || s.Choice.Kind == api.ChStart) && s.Choice.Node == node {
			floor = 0
		}
		for k, a := range s.Answers {
			c, _ := callAt(l, i, a.Req)
			if a.Node == node && a.Code == api.AnOK && (c.Op.Kind == api.OpGet || c.Op.Kind == api.OpScan) && (i < step || k < some) {
				floor = leastFrom(historyOf(s.H), c.Op, a.Result, floor)
			}
		}
	}
	return floor
}

// plainAnswer is the first rule that an answer breaks.
func plainAnswer(l []trace.Seen, i, k int) int {
	a, h := l[i].Answers[k], historyOf(l[i].H)
	c, made := callAt(l, i, a.Req)
	if !made || len(codesAt(l, i, k, a.Req)) > 0 || a.Node != c.Node || a.Code < api.AnOK || a.Code > api.AnMalformed {
		return 2
	}
	isWrite := c.Op.Kind == api.OpPut || c.Op.Kind == api.OpDel
	if isWrite && a.Code == api.AnOK && !slices.ContainsFunc(h, func(r api.Record) bool { return r.Req == a.Req }) {
		return 3
	}
	if a.Code == api.AnOK && (c.Op.Kind == api.OpGet || c.Op.Kind == api.OpScan) && leastFrom(h, c.Op, a.Result, floorAt(l, i, k, a.Node)) < 0 {
		return 5
	}
	if a.Code != api.AnOK && !same(a.Result, api.Result{}) || isWrite && (a.Result.Value != "" || len(a.Result.Entries) > 0) {
		return 6
	}
	return 0
}

// plainStep is the first rule that a step breaks.
func plainStep(l []trace.Seen, i int) int {
	for k := range l[i].Answers {
		if rule := plainAnswer(l, i, k); rule != 0 {
			return rule
		}
	}
	h := historyOf(l[i].H)
	for k, r := range h {
		if slices.ContainsFunc(h[:k], func(x api.Record) bool { return x.Req == r.Req }) {
			return 1
		}
	}
	if i > 0 {
		for k, r := range historyOf(l[i-1].H) {
			if k >= len(h) || h[k].Other != r.Other || h[k].Req != r.Req || h[k].Key != r.Key || h[k].Value != r.Value {
				return 1
			}
		}
	}
	for _, r := range h {
		c, made := callAt(l, i, r.Req)
		kind := map[int]int{1: api.OpPut, 2: api.OpDel}[r.Other]
		if !made || c.Op != (api.Op{Kind: kind, Key: r.Key, Value: r.Value}) {
			return 4
		}
		for _, code := range codesAt(l, i, len(l[i].Answers), r.Req) {
			if slices.Contains([]int{api.AnNotPrimary, api.AnKeyTooLong, api.AnMalformed, api.AnDiskFull}, code) {
				return 4
			}
		}
	}
	return 0
}

func plainCheck(l []trace.Seen) (int, int) {
	for i := range l {
		if rule := plainStep(l, i); rule != 0 {
			return rule, i
		}
	}
	return 0, 0
}

// world makes traces that keep the rules, step by step.
type world struct {
	r     *rand.Rand
	l     []trace.Seen
	h     []api.Record
	calls []api.Call // that are open
	reqs  int
}

func (w *world) anyOp() api.Op {
	k := string(rune('a' + w.r.Intn(4)))
	switch w.r.Intn(5) {
	case 0:
		return getOp(k)
	case 1:
		return scanOp([]string{"", k}[w.r.Intn(2)], []string{"", "c"}[w.r.Intn(2)])
	case 2:
		return delOp(k)
	}
	return putOp(k, string(rune('x'+w.r.Intn(3))))
}

// step adds one that keeps the rules.
func (w *world) step() {
	s := trace.Seen{Choice: api.Choice{Kind: 2 + w.r.Intn(9), Node: w.r.Intn(3)}}
	if w.r.Intn(2) == 0 {
		w.reqs++
		s.Choice = call(w.reqs, w.r.Intn(3), w.anyOp())
		w.calls = append(w.calls, s.Choice.Call)
	}
	inH := func(req int) bool {
		return slices.ContainsFunc(w.h, func(r api.Record) bool { return r.Req == req })
	}
	for _, c := range w.calls {
		if (c.Op.Kind == api.OpPut || c.Op.Kind == api.OpDel) && w.r.Intn(4) == 0 && !inH(c.Req) {
			x := wrote(c.Req, c.Op.Key, c.Op.Value)
			if c.Op.Kind == api.OpDel {
				x = erased(c.Req, c.Op.Key)
			}
			x.LSN, x.Epoch = 1+w.r.Intn(99), w.r.Intn(9)
			w.h = append(w.h, x)
		}
	}
	s.H = slices.Clone(w.h)
	for i := range s.H {
		s.H[i].LSN = 1 + w.r.Intn(99)
	}
	if w.r.Intn(3) == 0 {
		s.H = slices.Insert(s.H, w.r.Intn(len(s.H)+1), api.Record{LSN: 1, Kind: api.ReNoop}, api.Record{Kind: api.ReCommit, Other: 1, Req: 1, Key: "a"})
	}
	w.l = append(w.l, s)
	at := len(w.l) - 1
	for i := 0; i < len(w.calls); i++ {
		if w.r.Intn(3) > 0 {
			continue
		}
		c := w.calls[i]
		a := answer(c.Req, c.Node, api.AnOK, api.Result{})
		isWrite := c.Op.Kind == api.OpPut || c.Op.Kind == api.OpDel
		switch {
		case isWrite && inH(c.Req):
			a.Result.Found = w.r.Intn(2) == 0
			a.Code = []int{api.AnOK, api.AnOK, api.AnStale, api.AnTimeout, api.AnNotReady}[w.r.Intn(5)]
		case isWrite, w.r.Intn(4) == 0:
			a.Code = 2 + w.r.Intn(7)
		default:
			floor := floorAt(w.l, at, len(w.l[at].Answers), c.Node)
			a.Result = gives(w.h[:floor+w.r.Intn(len(w.h)-floor+1)], c.Op)
		}
		if a.Code != api.AnOK {
			a.Result = api.Result{}
		}
		w.l[at].Answers = append(w.l[at].Answers, a)
		w.calls = slices.Delete(w.calls, i, i+1)
		i--
	}
}

// spoil changes something of a trace.
func spoil(r *rand.Rand, l []trace.Seen) {
	i := r.Intn(len(l))
	s := &l[i]
	s.Answers, s.H = slices.Clone(s.Answers), slices.Clone(s.H)
	switch n := r.Intn(14); {
	case n == 0:
		s.Choice.Call.Req += r.Intn(3) - 1
	case n == 1:
		s.Choice.Kind = api.ChTick
	case n == 2:
		s.Answers = append(s.Answers, l[r.Intn(len(l))].Answers...)
	case n == 3 && len(s.H) > 0:
		s.H = slices.Delete(s.H, 0, 1)
	case n == 4:
		s.H = append(s.H, l[r.Intn(len(l))].H...)
	case n == 5 && len(s.H) > 0:
		s.H[r.Intn(len(s.H))].Value = "q"
	case n == 6 && len(s.H) > 0:
		s.H[r.Intn(len(s.H))].Req++
	case n == 7:
		s.H = append(s.H, erased(1+r.Intn(99), "a"))
	case n == 8:
		s.Choice = api.Choice{Kind: api.ChCall, Call: api.Call{Req: 1 + r.Intn(40), Node: r.Intn(3), Op: getOp("a")}}
	case len(s.Answers) > 0:
		a := &s.Answers[r.Intn(len(s.Answers))]
		switch n {
		case 9:
			a.Node++
		case 10:
			a.Code = r.Intn(11) - 1
			if r.Intn(2) == 0 {
				a.Code = api.AnOK
			}
		case 11:
			a.Result = api.Result{Found: r.Intn(2) == 0, Value: []string{"", "x"}[r.Intn(2)]}
		case 12:
			a.Result.Entries = append(slices.Clone(a.Result.Entries), api.Entry{Key: "e", Value: "x"})
		case 13:
			a.Req += r.Intn(5) - 2
		}
	}
}

func TestCheckAtRandom(t *testing.T) {
	r := rand.New(rand.NewSource(261))
	met := map[int]int{}
	for range 9000 {
		w := &world{r: r}
		for range 1 + r.Intn(25) {
			w.step()
		}
		if rule, at := plainCheck(w.l); rule != 0 {
			t.Fatalf("rule %d at step %d of %+v", rule, at, w.l)
		}
		want(t, "a trace at random", w.l, 0, 0)
		for range 1 + r.Intn(3) {
			spoil(r, w.l)
		}
		rule, at := plainCheck(w.l)
		met[rule]++
		want(t, fmt.Sprintf("%+v", w.l), w.l, rule, at)
		if t.Failed() {
			t.FailNow()
		}
		// 26.3: a beginning without a broken rule has none; and what was broken stays so.
		n := r.Intn(len(w.l) + 1)
		if rule == 0 || n <= at {
			want(t, "a beginning", w.l[:n], 0, 0)
		} else {
			want(t, "a beginning", w.l[:n], rule, at)
		}
		if rule == 0 {
			once(t, w.l)
		}
		openAndAcked(t, w.l)
	}
	for rule := range 7 {
		if met[rule] < 100 {
			t.Errorf("rule %d was broken %d times", rule, met[rule])
		}
	}
}

// once is 26.4: where no rule is broken each write that is acked is in the last H once.
func once(t *testing.T, l []trace.Seen) {
	t.Helper()
	h := historyOf(l[len(l)-1].H)
	for _, req := range trace.Acked(l) {
		count := 0
		for _, r := range h {
			if r.Req == req {
				count++
			}
		}
		if count != 1 {
			t.Fatalf("request %d is acked, and %d times in H", req, count)
		}
	}
}

// openAndAcked holds both against going through all steps again.
func openAndAcked(t *testing.T, l []trace.Seen) {
	t.Helper()
	var open, acked []int
	for i, s := range l {
		if c := s.Choice.Call; s.Choice.Kind == api.ChCall {
			if _, again := callAt(l[:i], i-1, c.Req); !again && len(codesAt(l, len(l)-1, math.MaxInt, c.Req)) == len(codesAt(l[:i], i-1, math.MaxInt, c.Req)) {
				open = append(open, c.Req)
			}
		}
		for _, a := range s.Answers {
			if c, made := callAt(l, i, a.Req); made && a.Code == api.AnOK && (c.Op.Kind == api.OpPut || c.Op.Kind == api.OpDel) {
				acked = append(acked, a.Req)
			}
		}
	}
	if got := trace.Open(l); !slices.Equal(got, open) {
		t.Fatalf("Open: %v, not %v, of %+v", got, open, l)
	}
	if got := trace.Acked(l); !slices.Equal(got, acked) {
		t.Fatalf("Acked: %v, not %v, of %+v", got, acked, l)
	}
}

// R3 and R6.

func TestNothingIsChangedOrShared(t *testing.T) {
	w := &world{r: rand.New(rand.NewSource(263))}
	for range 40 {
		w.step()
	}
	wide := func(l []trace.Seen) string {
		var b strings.Builder
		for _, s := range l[:cap(l)] {
			fmt.Fprintf(&b, "%+v %+v %+v %+v\n", s, s.Answers[:cap(s.Answers)], s.H[:cap(s.H)], s.Choice.Bytes[:cap(s.Choice.Bytes)])
		}
		return b.String()
	}
	l := append(make([]trace.Seen, 0, 99), w.l...)
	l = append(l, trace.Seen{Answers: answers(ok(77, 7))})[:len(w.l)]
	was := wide(l)
	open, acked := trace.Open(l), trace.Acked(l)
	if len(open) == 0 || len(acked) == 0 {
		t.Fatal(open, acked)
	}
	for range 2 {
		want(t, "the same again", l, 0, 0)
		a, b := trace.Open(l), trace.Acked(l)
		if !slices.Equal(a, open) || !slices.Equal(b, acked) {
			t.Errorf("%v, %v, not %v, %v", a, b, open, acked)
		}
		clear(a[:cap(a)])
		clear(b[:cap(b)])
	}
	if wide(l) != was {
		t.Error("what was handed in was changed")
	}
}

// The chapter's example.
func TestExample(t *testing.T) {
	put := call(1, 0, putOp("a", "x"))
	want(t, "H without it", []trace.Seen{{Choice: put, Answers: answers(ok(1, 0))}}, 3, 0)
	h := records(wrote(1, "a", "x"))
	want(t, "the same answer again", []trace.Seen{{Choice: put, Answers: answers(ok(1, 0)), H: h}, {Answers: answers(ok(1, 0)), H: h}}, 2, 1)
}
