package desk_test

import (
	"bytes"
	"fmt"
	"math"
	"math/rand"
	"regexp"
	"slices"
	"strconv"
	"strings"
	"testing"

	"lattice/api"
	"lattice/desk"
)

// isSame tells whether two choices are the same, where no bytes and empty ones are (R2).
func isSame(x, y api.Choice) bool {
	return x.Kind == y.Kind && x.Node == y.Node && x.N == y.N && x.M == y.M && x.Call == y.Call && bytes.Equal(x.Bytes, y.Bytes)
}

func wantChoice(t *testing.T, line string, want api.Choice) {
	t.Helper()
	if x, e := desk.Choice(line); e != api.OK || !isSame(x, want) {
		t.Errorf("Choice(%q): %+v, %v, not %+v", line, x, e, want)
	}
	if s, e := desk.Line(want); e != api.OK || s != line {
		t.Errorf("Line(%+v): %q, %v, not %q", want, s, e, line)
	}
}

func wantNoChoice(t *testing.T, line string) {
	t.Helper()
	if x, e := desk.Choice(line); e != api.ErrForm || !isSame(x, api.Choice{}) {
		t.Errorf("Choice(%q): %+v, %v", line, x, e)
	}
}

func wantNoLine(t *testing.T, x api.Choice) {
	t.Helper()
	if s, e := desk.Line(x); s != "" || e != api.ErrForm {
		t.Errorf("Line(%+v): %q, %v", x, s, e)
	}
}

func call(node, req, kind int, key, value string) api.Choice {
	return api.Choice{Kind: api.ChCall, Call: api.Call{Node: node, Req: req, Op: api.Op{Kind: kind, Key: key, Value: value}}}
}

// 28.1: each kind of choice.
func TestEachCommand(t *testing.T) {
	for line, x := range map[string]api.Choice{
		"put 1 2 a x":        call(1, 2, api.OpPut, "a", "x"),
		"put 0 0 - -":        call(0, 0, api.OpPut, "", ""),
		"put 3 9 put put":    call(3, 9, api.OpPut, "put", "put"),
		"del 1 2 a":          call(1, 2, api.OpDel, "a", ""),
		"get 6 7 \\x2d":      call(6, 7, api.OpGet, "-", ""),
		"scan 1 2 - -":       call(1, 2, api.OpScan, "", ""),
		"scan 1 2 a b":       call(1, 2, api.OpScan, "a", "b"),
		"pick 4":             {Kind: api.ChPick, N: 4},
		"drop 5":             {Kind: api.ChDrop, N: 5},
		"copy 6":             {Kind: api.ChCopy, N: 6},
		"tick 7":             {Kind: api.ChTick, Node: 7},
		"work 8 9":           {Kind: api.ChWork, Node: 8, N: 9},
		"sync 10":            {Kind: api.ChSync, Node: 10},
		"crash 11 12 13":     {Kind: api.ChCrash, Node: 11, N: 12, M: 13},
		"start 14":           {Kind: api.ChStart, Node: 14},
		"bytes 15 ab":        {Kind: api.ChBytes, Node: 15, Bytes: []byte("ab")},
		"bytes 0 -":          {Kind: api.ChBytes},
		"bytes 0 \\x00\\xff": {Kind: api.ChBytes, Bytes: []byte{0, 255}},
		"pick 0":             {Kind: api.ChPick},
		"tick 0":             {Kind: api.ChTick},
	} {
		wantChoice(t, line, x)
	}
}

// commands are the first words of lines, and what behind them is a number and what a text.
var commands = map[string]string{"put": "nntt", "del": "nnt", "get": "nnt", "scan": "nntt", "pick": "n", "drop": "n", "copy": "n", "tick": "n", "work": "nn", "sync": "n", "crash": "nnn", "start": "n", "bytes": "nt"}

// names are the first words, in their order.
func names() []string {
	var l []string
	for name := range commands {
		l = append(l, name)
	}
	slices.Sort(l)
	return l
}

// lineOf is the line of a command with numbers and texts.
func lineOf(name string, number func() string, text func() string) string {
	l := []string{name}
	for _, what := range commands[name] {
		if what == 'n' {
			l = append(l, number())
		} else {
			l = append(l, text())
		}
	}
	return strings.Join(l, " ")
}

func fixed(s string) func() string { return func() string { return s } }

func TestLinesThatAreNone(t *testing.T) {
	for _, line := range []string{"", " ", "  ", "#", "# tick 0", "-", "0", "1 2", "cluster", "cluster 1", "Tick 0", "TICK 0", "tack 0", "tick0", "tick\t0", "tick 0\n", "tick 0\r", "\ntick 0", "tick 0\x00", "tick -", "ticks 0", "tic 0", "call 0 1 a", "call", "answer"} {
		wantNoChoice(t, line)
	}
	for _, name := range names() {
		good := lineOf(name, fixed("1"), fixed("a"))
		if _, e := desk.Choice(good); e != api.OK {
			t.Fatalf("%q: %v", good, e)
		}
		for _, line := range []string{" " + good, good + " ", good + " 1", good + " a", good + " -", name, name + " ", strings.Replace(good, " ", "  ", 1), good[:strings.LastIndex(good, " ")], good + "\n", strings.Replace(good, " ", "\t", 1), strings.ToUpper(name) + good[len(name):], "x" + good, name + "x" + good[len(name):]} {
			wantNoChoice(t, line)
		}
	}
}

// 28.1: each number of each command.
func TestNumbers(t *testing.T) {
	const most = 1 << 40
	right := []int{0, 1, 7, 9, 10, 255, 256, 1000000, most - 1, most}
	wrong := []string{"", "00", "01", "007", "-0", "-1", "+1", "1.", "1.0", "1e3", "0x1", "0b1", "1_000", "a", "-", "1a", " ", "\x00", "१", strconv.Itoa(most + 1), "01099511627776", "9223372036854775807", "9223372036854775808", "99999999999999999999999", strings.Repeat("1", 1000)}
	for _, name := range names() {
		for i, what := range commands[name] {
			if what != 'n' {
				continue
			}
			with := func(s string) string {
				l := strings.Split(lineOf(name, fixed("1"), fixed("a")), " ")
				l[i+1] = s
				return strings.Join(l, " ")
			}
			for _, n := range right {
				line := with(strconv.Itoa(n))
				x, e := desk.Choice(line)
				if s, e2 := desk.Line(x); e != api.OK || e2 != api.OK || s != line || !slices.Contains([]int{x.Node, x.N, x.M, x.Call.Node, x.Call.Req}, n) {
					t.Errorf("%q: %+v, %v, %q, %v", line, x, e, s, e2)
				}
			}
			for _, s := range wrong {
				wantNoChoice(t, with(s))
			}
		}
	}
}

// textWord is how the chapter has a text written.
func textWord(s string) string {
	switch s {
	case "":
		return "-"
	case "-":
		return `\x2d`
	}
	w := ""
	for _, b := range []byte(s) {
		if b < 33 || b > 126 || b == '\\' {
			w += fmt.Sprintf(`\x%02x`, b)
		} else {
			w += string(rune(b))
		}
	}
	return w
}

// isText is what the chapter takes for a text's word.
var isText = regexp.MustCompile(`^(?:-|\\x2d|(?:[!-\[\]-~]|\\x(?:[01][0-9a-f]|20|5c|7f|[89a-f][0-9a-f]))+)$`)

// 28.1: texts of each byte, alone and beside others, in each place of each command.
func TestTexts(t *testing.T) {
	texts := []string{"", "-", "--", "-a", "a-", "#", "\\", "\\x", "\\\\", `\x41`, "put", strings.Repeat("\x00", 5000), strings.Repeat("k", 17), "ключ", "\xff\xfe"}
	for b := range 256 {
		texts = append(texts, string([]byte{byte(b)}), "a"+string([]byte{byte(b)}), string([]byte{byte(b)})+"-")
	}
	for _, s := range texts {
		w := textWord(s)
		wantChoice(t, "put 1 2 "+w+" y", call(1, 2, api.OpPut, s, "y"))
		wantChoice(t, "put 1 2 y "+w, call(1, 2, api.OpPut, "y", s))
		wantChoice(t, "del 1 2 "+w, call(1, 2, api.OpDel, s, ""))
		wantChoice(t, "get 1 2 "+w, call(1, 2, api.OpGet, s, ""))
		wantChoice(t, "scan 1 2 "+w+" -", call(1, 2, api.OpScan, s, ""))
		wantChoice(t, "scan 1 2 - "+w, call(1, 2, api.OpScan, "", s))
		wantChoice(t, "bytes 3 "+w, api.Choice{Kind: api.ChBytes, Node: 3, Bytes: []byte(s)})
	}
}

func TestWordsThatAreNoTexts(t *testing.T) {
	for b := range 256 {
		if w := fmt.Sprintf(`\x%02x`, b); w != textWord(string([]byte{byte(b)})) { // it stands for itself
			wantNoChoice(t, "get 1 2 "+w)
			wantNoChoice(t, "get 1 2 a"+w)
		}
		if w := fmt.Sprintf(`\x%02X`, b); strings.ToLower(w) != w {
			wantNoChoice(t, "get 1 2 "+w)
			wantNoChoice(t, "bytes 1 "+w)
		}
		if b < 33 || b > 126 || b == '\\' {
			wantNoChoice(t, "get 1 2 "+string([]byte{byte(b)}))
			wantNoChoice(t, "put 1 2 a"+string([]byte{byte(b)})+" x")
		}
	}
	for _, w := range []string{"", `\`, `\\`, `\x`, `\x0`, `\x0g`, `\xg0`, `\X00`, `\n`, `\0`, `\u0000`, `\x2da`, `a\x2d`, `\x2d\x2d`, `\x00\`, `\x0\x00`, `\x 0`, "a b", "\xff"} {
		wantNoChoice(t, "get 1 2 "+w)
		wantNoChoice(t, "bytes 1 "+w)
	}
	r := rand.New(rand.NewSource(281))
	right := 0
	for range 200000 {
		var w []byte
		for range r.Intn(9) {
			w = append(w, []string{`\`, `\x`, `\x`, "0", "2", "5", "7", "8", "c", "d", "f", "F", "-", "x", "!", "~", "\x7f", "\x80"}[r.Intn(18)]...)
		}
		x, e := desk.Choice("get 1 2 " + string(w))
		if (e == api.OK) != isText.Match(w) || e == api.OK && textWord(x.Call.Op.Key) != string(w) {
			t.Fatalf("%q: %+v, %v", w, x, e)
		}
		if e == api.OK {
			right++
		}
	}
	if right < 10000 {
		t.Errorf("only %d were right", right)
	}
}

// 28.1: a choice with a field that its line does not tell, or that no line tells.
func TestChoicesWithoutALine(t *testing.T) {
	const most = 1 << 40
	for _, name := range names() {
		x, e := desk.Choice(lineOf(name, fixed("1"), fixed("a")))
		if e != api.OK {
			t.Fatal(name, e)
		}
		line, _ := desk.Line(x)
		tells := map[string]bool{}
		for i, change := range []func(y *api.Choice, n int){
			func(y *api.Choice, n int) { y.Node = n }, func(y *api.Choice, n int) { y.N = n }, func(y *api.Choice, n int) { y.M = n },
			func(y *api.Choice, n int) { y.Call.Node = n }, func(y *api.Choice, n int) { y.Call.Req = n }, func(y *api.Choice, n int) { y.Call.Op.Kind = n + 4 },
			func(y *api.Choice, n int) { y.Call.Op.Key = "b" }, func(y *api.Choice, n int) { y.Call.Op.Value = "b" }, func(y *api.Choice, n int) { y.Bytes = []byte("b") },
			func(y *api.Choice, n int) { y.Kind = n + 10 }, func(y *api.Choice, n int) { y.Kind = -n },
		} {
			y := x
			change(&y, 2)
			s, e := desk.Line(y)
			if (e == api.OK) != (s != "") || e != api.OK && e != api.ErrForm || s == line {
				t.Errorf("%s: Line(%+v): %q, %v", name, y, s, e)
			}
			if e == api.OK {
				tells[fmt.Sprint(i)] = true
				wantChoice(t, s, y)
			}
			if i < 6 {
				for _, n := range []int{-5, most + 1, math.MinInt, math.MaxInt - 4} {
					y := x
					change(&y, n)
					wantNoLine(t, y)
				}
			}
		}
		if want := len(commands[name]); len(tells) != want {
			t.Errorf("%s: a line tells %d fields, not %d: %v", name, len(tells), want, tells)
		}
	}
	for _, kind := range []int{math.MinInt, -1, 0, 11, math.MaxInt} {
		wantNoLine(t, api.Choice{Kind: kind})
	}
	for _, kind := range []int{math.MinInt, -1, 0, 5, math.MaxInt} {
		wantNoLine(t, call(0, 1, kind, "a", ""))
	}
	wantNoLine(t, call(0, 1, api.OpGet, "a", "x"))
	wantNoLine(t, call(0, 1, api.OpDel, "a", "x"))
	wantNoLine(t, api.Choice{Kind: api.ChCall, Node: 1, Call: call(1, 2, api.OpGet, "a", "").Call})
}

// anyText is a short one.
func anyText(r *rand.Rand) string {
	b := make([]byte, r.Intn(5))
	for i := range b {
		b[i] = []byte("-\\ ax#\n\x00\x7f\xff~!")[r.Intn(12)]
	}
	return string(b)
}

// 28.3: Choice of Line(x) is x, and of a choice's line the line is that.
func TestThereAndBack(t *testing.T) {
	r := rand.New(rand.NewSource(283))
	numbers := []int{0, 0, 1, 2, 9, 1 << 40, 1<<40 + 1, -1}
	number := func() int { return numbers[r.Intn(len(numbers))] }
	some := func(f func()) {
		if r.Intn(2) == 0 {
			f()
		}
	}
	right := map[string]int{}
	for range 400000 {
		x := api.Choice{Kind: r.Intn(12)}
		if x.Kind == api.ChCall || r.Intn(20) == 0 {
			x.Call = api.Call{Node: number(), Req: number(), Op: api.Op{Kind: r.Intn(6), Key: anyText(r)}}
			some(func() { x.Call.Op.Value = anyText(r) })
		}
		if x.Kind != api.ChCall || r.Intn(20) == 0 {
			some(func() { x.Node = number() })
			some(func() { x.N = number() })
			some(func() { x.M = number() })
		}
		if x.Kind == api.ChBytes || r.Intn(20) == 0 {
			x.Bytes = []byte(anyText(r))
		}
		s, e := desk.Line(x)
		if e != api.OK {
			wantNoLine(t, x)
			continue
		}
		wantChoice(t, s, x)
		right[strings.Split(s, " ")[0]]++
	}
	for _, name := range names() {
		if right[name] < 200 {
			t.Errorf("only %d of %s", right[name], name)
		}
	}
	for range 100000 { // lines that are right, or nearly so
		name := names()[r.Intn(len(commands))]
		line := lineOf(name, func() string { return strconv.Itoa(number()) }, func() string { return textWord(anyText(r)) })
		if i := r.Intn(len(line)); r.Intn(2) == 0 {
			line = line[:i] + string([]byte{" 0-\\x2dA"[r.Intn(8)]}) + line[i+r.Intn(2):]
		}
		x, e := desk.Choice(line)
		if e != api.OK {
			wantNoChoice(t, line)
			continue
		}
		wantChoice(t, line, x)
	}
}

// 28.1: Answer.
func TestAnswer(t *testing.T) {
	for _, c := range []struct {
		a    api.Answer
		want string
	}{
		{api.Answer{Req: 1, Code: api.AnNotReady}, "1 0 notready none - 0"},
		{api.Answer{Req: 2, Node: 3, Code: api.AnOK, Result: api.Result{Found: true, Value: "x"}}, "2 3 ok found x 0"},
		{api.Answer{Req: -2, Node: -3, Code: api.AnOK, Result: api.Result{Found: true}}, "-2 -3 ok found - 0"},
		{api.Answer{Req: math.MinInt, Node: math.MaxInt, Code: api.AnMalformed}, "-9223372036854775808 9223372036854775807 malformed none - 0"},
		{api.Answer{Code: api.AnOK, Result: api.Result{Value: "-"}}, `0 0 ok none \x2d 0`},
		{api.Answer{Code: api.AnOK, Result: api.Result{Entries: []api.Entry{}}}, "0 0 ok none - 0"},
		{api.Answer{Code: api.AnOK, Result: api.Result{Entries: []api.Entry{{Key: "a", Value: "x"}}}}, "0 0 ok none - 1 a x"},
		{api.Answer{Req: 9, Code: api.AnOK, Result: api.Result{Entries: []api.Entry{{Key: "a b", Value: ""}, {Key: "", Value: "\n"}, {Key: "\\", Value: "-"}}}}, `9 0 ok none - 3 a\x20b - - \x0a \x5c \x2d`},
		{api.Answer{Req: 9, Code: api.AnStale, Result: api.Result{Found: true, Value: "\x00\xff", Entries: []api.Entry{{}}}}, `9 0 stale found \x00\xff 1 - -`},
	} {
		for range 2 {
			if s, e := desk.Answer(c.a); s != c.want || e != api.OK {
				t.Errorf("Answer(%+v): %q, %v", c.a, s, e)
			}
		}
	}
	words := []string{api.AnOK: "ok", api.AnNotPrimary: "notprimary", api.AnStale: "stale", api.AnNotReady: "notready", api.AnKeyTooLong: "keytoolong", api.AnDiskFull: "diskfull", api.AnTimeout: "timeout", api.AnMalformed: "malformed"}
	for code := -3; code < 20; code++ {
		s, e := desk.Answer(api.Answer{Req: 7, Node: 1, Code: code})
		if code < api.AnOK || code > api.AnMalformed {
			if s != "" || e != api.ErrForm {
				t.Errorf("code %d: %q, %v", code, s, e)
			}
		} else if s != "7 1 "+words[code]+" none - 0" || e != api.OK {
			t.Errorf("code %d: %q, %v", code, s, e)
		}
	}
	for _, code := range []int{math.MinInt, math.MaxInt} {
		if s, e := desk.Answer(api.Answer{Req: 7, Code: code, Result: api.Result{Entries: []api.Entry{{Key: "a"}}}}); s != "" || e != api.ErrForm {
			t.Errorf("code %d: %q, %v", code, s, e)
		}
	}
	for b := range 256 {
		s := string([]byte{byte(b), 'a'})
		if got, e := desk.Answer(api.Answer{Code: 1, Result: api.Result{Value: s, Entries: []api.Entry{{Key: s, Value: s}}}}); got != "0 0 ok none "+textWord(s)+" 1 "+textWord(s)+" "+textWord(s) || e != api.OK {
			t.Errorf("%q: %q, %v", s, got, e)
		}
	}
}

// R3
func TestNothingIsChangedOrKept(t *testing.T) {
	room := []byte("ab\\ and more")
	x := api.Choice{Kind: api.ChBytes, Node: 1, Bytes: room[:3]}
	for range 2 {
		if s, e := desk.Line(x); s != `bytes 1 ab\x5c` || e != api.OK || string(room) != "ab\\ and more" {
			t.Fatalf("%q, %v, %q", s, e, room)
		}
	}
	one, _ := desk.Choice("bytes 1 abc")
	two, _ := desk.Choice("bytes 1 abc")
	clear(one.Bytes[:cap(one.Bytes)])
	if three, _ := desk.Choice("bytes 1 abc"); string(two.Bytes) != "abc" || string(three.Bytes) != "abc" {
		t.Error("choices share their bytes")
	}
	entries := append(make([]api.Entry, 0, 4), api.Entry{Key: "a", Value: "x"}, api.Entry{Key: "b"}, api.Entry{Key: "c"})
	was := slices.Clone(entries[:cap(entries)])
	desk.Answer(api.Answer{Code: 1, Result: api.Result{Entries: entries[:2]}})
	if !slices.Equal(entries[:cap(entries)], was) {
		t.Error("entries that were handed in are others now")
	}
}
