package desk_test

import (
	"fmt"
	"math/rand"
	"strings"
	"testing"

	"lattice/api"
	"lattice/cluster"
	"lattice/desk"
)

func wantRun(t *testing.T, script, want string, line int, e api.Errno) {
	t.Helper()
	if s, at, got := desk.Run(script); s != want || at != line || got != e {
		if len(script) > 200 {
			script = script[:200] + ".."
		}
		t.Errorf("Run(%q): %q, %d, %v, not %q, %d, %v", script, s, at, got, want, line, e)
	}
}

// 28.2: the chapter's example, and short scripts.
func TestScripts(t *testing.T) {
	for script, want := range map[string]string{
		"cluster 1\nget 0 1 a":                         "1 0 notready none - 0\n",
		"cluster 1\nget 0 1 a\n":                       "1 0 notready none - 0\n",
		"cluster 1":                                    "",
		"cluster 7\n":                                  "",
		"\n\n# first\n\ncluster 1\n\n#\n":              "",
		"#cluster 2\ncluster 1\n#get 0 1 a\nget 0 2 a": "2 0 notready none - 0\n",
		"cluster 2\nput 1 7 a x\nget 0 0 a\nscan 1 8 - -\ncrash 1 0 0\ncrash 1 0 0\ndel 1 9 a\nbytes 1 a\nstart 1\nstart 1":                                                                                                          "7 1 notprimary none - 0\n0 0 malformed none - 0\n8 1 notready none - 0\n9 1 timeout none - 0\n",
		"cluster 1\n" + strings.Repeat("tick 0\n", 10) + "sync 0\nput 0 1 a x\nget 0 2 a\nput 0 3 b -\nscan 0 4 - -\nwork 0 0\nwork 0 1\nwork 0 1\nscan 0 5 - -\nsync 0\nget 0 6 a\nscan 0 7 a b\nwork 0 0\nwork 0 0\ncrash 0 9 256": "4 0 ok none - 0\n1 0 ok none - 0\n2 0 ok found x 0\n3 0 ok none - 0\n5 0 ok none - 2 a x b -\n7 0 ok none - 1 a x\n6 0 timeout none - 0\n",
	} {
		for range 2 {
			wantRun(t, script, want, 0, api.OK)
		}
	}
}

// 28.2: the errors, and their lines.
func TestWrongScripts(t *testing.T) {
	for _, c := range []struct {
		script string
		line   int
		e      api.Errno
	}{
		{"", 0, api.ErrForm}, {"\n", 0, api.ErrForm}, {"\n\n\n", 0, api.ErrForm}, {"# cluster 1", 0, api.ErrForm}, {"\n#\n\n# x\n", 0, api.ErrForm}, // no line of a cluster
		{"tick 0", 1, api.ErrForm}, {"\n# a\ntick 0\ncluster 1", 3, api.ErrForm}, {"x", 1, api.ErrForm}, {" ", 1, api.ErrForm}, {" # a", 1, api.ErrForm}, {"\n\r\n", 2, api.ErrForm}, // another first line
		{"cluster", 1, api.ErrForm}, {"cluster ", 1, api.ErrForm}, {"cluster  1", 1, api.ErrForm}, {"cluster 1 ", 1, api.ErrForm}, {" cluster 1", 1, api.ErrForm}, {"cluster 1 1", 1, api.ErrForm}, {"cluster a", 1, api.ErrForm}, {"cluster 01", 1, api.ErrForm}, {"cluster -1", 1, api.ErrForm}, {"cluster +1", 1, api.ErrForm}, {"cluster 1099511627777", 1, api.ErrForm}, {"Cluster 1", 1, api.ErrForm}, {"clusters 1", 1, api.ErrForm}, {"cluster 1\r\ntick 0", 1, api.ErrForm}, {"cluster 1\x00", 1, api.ErrForm},
		{"cluster 0", 1, api.ErrArg}, {"cluster 8", 1, api.ErrArg}, {"#\n\ncluster 1099511627776\ntick 0", 3, api.ErrArg},
		{"cluster 1\ncluster 1", 2, api.ErrForm}, {"cluster 1\n#\ntick 0\ncluster 2\n", 4, api.ErrForm}, {"cluster 0\ncluster 1", 1, api.ErrArg}, {"cluster x\ncluster 1", 1, api.ErrForm},
		{"cluster 1\ntick x", 2, api.ErrForm}, {"cluster 1\n\ntick 0\n\ntick 0 0\ntick x", 5, api.ErrForm}, {"cluster 1\n # x", 2, api.ErrForm}, {"cluster 1\n ", 2, api.ErrForm}, {"cluster 1\ntick 0\r\n", 2, api.ErrForm},
		{"cluster 1\ntick 1", 2, api.ErrArg}, {"cluster 3\n\n#\ntick 2\ntick 3\nget 0 1 a\nget 0 1 a", 5, api.ErrArg}, {"cluster 1\nget 1 1 a", 2, api.ErrArg}, {"cluster 1\nget 1099511627776 1 a", 2, api.ErrArg}, {"cluster 1\ncrash 0 0 257", 2, api.ErrArg}, {"cluster 1\nwork 1 0", 2, api.ErrArg}, {"cluster 1\nbytes 1 -", 2, api.ErrArg},
		{"cluster 1\nget 0 1 a\n\nput 0 1 b x", 4, api.ErrState},
		{"cluster 1\ntick 1\ntick x", 3, api.ErrForm}, {"cluster 1\nget 0 1 a\nget 0 1 a\n\n\nbad", 6, api.ErrForm}, {"cluster 1\ntick 1\ncluster 1", 3, api.ErrForm}, // a wrong line behind a choice that tells an error
		{"cluster 8\ntick x", 1, api.ErrArg},
	} {
		wantRun(t, c.script, "", c.line, c.e)
	}
}

// 28.2: scripts as long as they may be, and longer.
func TestLongScripts(t *testing.T) {
	pad := func(head string, size int) string { return head + "#" + strings.Repeat("x", size-len(head)-1) }
	answer := "1 0 notready none - 0\n"
	head := "cluster 1\nget 0 1 a\n"
	wantRun(t, pad(head, 60000), answer, 0, api.OK)
	wantRun(t, pad(head, 59999)+"\n", answer, 0, api.OK)
	wantRun(t, pad(head, 60001), "", 0, api.ErrLong)
	wantRun(t, pad(head, 60000)+"\n", "", 0, api.ErrLong)
	wantRun(t, pad("bad\n", 60001), "", 0, api.ErrLong)
	wantRun(t, pad("bad\n", 60000), "", 1, api.ErrForm)
	wantRun(t, strings.Repeat("\n", 1<<20), "", 0, api.ErrLong)
	if desk.MaxLines != 2000 {
		t.Fatal(desk.MaxLines)
	}
	rest := desk.MaxLines - 2
	for _, line := range []string{"", "# a remark", "tick 0", "pick 0"} {
		wantRun(t, head+strings.Repeat(line+"\n", rest), answer, 0, api.OK)
		wantRun(t, head+strings.Repeat(line+"\n", rest-1)+"sync 0", answer, 0, api.OK)
		wantRun(t, head+strings.Repeat(line+"\n", rest)+"#", "", 0, api.ErrLong)
		wantRun(t, head+strings.Repeat(line+"\n", rest+1), "", 0, api.ErrLong)
		wantRun(t, "bad\n"+strings.Repeat(line+"\n", rest+2), "", 0, api.ErrLong)
		wantRun(t, head+strings.Repeat(line+"\n", rest-1)+"bad", "", desk.MaxLines, api.ErrForm)
		wantRun(t, head+strings.Repeat(line+"\n", rest-1)+"tick 1", "", desk.MaxLines, api.ErrArg)
	}
	wantRun(t, strings.Repeat("\n", desk.MaxLines), "", 0, api.ErrForm)
	wantRun(t, strings.Repeat("\n", desk.MaxLines-1)+"cluster 1", "", 0, api.OK)
}

// anyLine is a choice's line, of a cluster that has so many nodes.
func anyLine(r *rand.Rand, n, req int) string {
	i := r.Intn(n)
	if r.Intn(2) == 0 {
		i = 0
	}
	k := textWord(anyText(r))
	switch r.Intn(20) {
	case 0:
		return fmt.Sprintf("put %d %d %s %s", i, req, k, textWord(anyText(r)))
	case 1:
		return fmt.Sprintf("put %d %d k%d v%d", i, req, r.Intn(30), r.Intn(9))
	case 2:
		return fmt.Sprintf("del %d %d k%d", i, req, r.Intn(30))
	case 3:
		return fmt.Sprintf("get %d %d k%d", i, req, r.Intn(30))
	case 4:
		return fmt.Sprintf("scan %d %d - %s", i, req, k)
	case 5:
		return fmt.Sprintf("%s %d", []string{"drop", "copy"}[r.Intn(2)], r.Intn(9))
	case 6:
		if r.Intn(4) == 0 {
			return fmt.Sprintf("crash %d %d %d", i, r.Intn(9), r.Intn(257))
		}
		return fmt.Sprintf("start %d", i)
	case 7:
		return fmt.Sprintf("bytes %d %s", i, k)
	case 8, 9, 10:
		return fmt.Sprintf("work %d %d", i, r.Intn(3))
	case 11, 12, 13:
		return fmt.Sprintf("sync %d", r.Intn(n))
	case 14, 15, 16:
		return fmt.Sprintf("tick %d", i)
	}
	return "pick 0"
}

// played is what a cluster answers to some lines, and the error and the place of the first that tells one.
func played(n int, lines []string) (string, int, api.Errno) {
	c, _ := cluster.New(n)
	out := ""
	for i, line := range lines {
		x, e := desk.Choice(line)
		if e != api.OK {
			return "", i, e
		}
		l, e := c.Step(x)
		if e != api.OK {
			return "", i, e
		}
		for _, a := range l {
			s, _ := desk.Answer(a)
			out += s + "\n"
		}
	}
	return out, 0, api.OK
}

// among lays empty lines and remarks among some: the script, and the numbers of the lines.
func among(r *rand.Rand, lines []string) (string, []int) {
	script, at := "", 0
	var numbers []int
	for _, line := range lines {
		for r.Intn(4) == 0 {
			script += []string{"\n", "#\n", "# tick 0\n", "#bad\n", "# \xff\x00\n"}[r.Intn(5)]
			at++
		}
		script += line + "\n"
		at++
		numbers = append(numbers, at)
	}
	return script, numbers
}

// 28.2 and 28.3: a script does what its choices do; what is passed over changes nothing but numbers.
func TestScriptsDoWhatTheirChoicesDo(t *testing.T) {
	answers, errors := 0, 0
	for seed := range 60 {
		r := rand.New(rand.NewSource(int64(seed)))
		n := 1 + seed%api.MaxNodes
		var lines []string
		for i := range 900 {
			lines = append(lines, anyLine(r, n, i+1))
		}
		if seed%3 == 0 { // one that tells an error
			lines[300+r.Intn(600)] = []string{fmt.Sprintf("tick %d", n), "crash 0 0 300", "get 0 1 a\nget 0 1 a"}[r.Intn(3)]
			lines = strings.Split(strings.Join(lines, "\n"), "\n")
			errors++
		}
		want, at, e := played(n, lines)
		plain := append([]string{fmt.Sprintf("cluster %d", n)}, lines...)
		line := 0
		if e != api.OK {
			line = at + 2
		}
		wantRun(t, strings.Join(plain, "\n"), want, line, e)
		wantRun(t, strings.Join(plain, "\n")+"\n", want, line, e)
		script, numbers := among(r, plain)
		if e != api.OK {
			line = numbers[at+1]
		}
		wantRun(t, script, want, line, e)
		bad := r.Intn(len(plain)) // a wrong line counts ahead of all that choices tell
		plain[bad] = "bad"
		wantRun(t, strings.Join(plain, "\n"), "", bad+1, api.ErrForm)
		answers += strings.Count(want, "\n")
	}
	if answers < 2000 || errors < 10 {
		t.Errorf("only %d answers, %d errors", answers, errors)
	}
}

// P1: any text ends, and tells an error that a script may tell.
func TestAnyTextsAreScripts(t *testing.T) {
	r := rand.New(rand.NewSource(1))
	pieces := []string{"cluster 1\n", "tick 1\n", "tick 0\n", "get 0 1 a\n", "put 1 2 a \\x00\n", "\\", "\\x", "\n", " ", "#", "-", "0", "bytes 0 -\n", "crash 0 0 0\n", "\xff", "9", "x"}
	counts := map[api.Errno]int{}
	for range 6000 {
		script := ""
		if r.Intn(4) > 0 {
			script = "cluster 1\n"
		}
		for range r.Intn(6) {
			script += pieces[r.Intn(len(pieces))]
		}
		s, at, e := desk.Run(script)
		counts[e]++
		if lines := strings.Count(script, "\n") + 1; at < 0 || at > lines || e == api.OK && at != 0 || e != api.OK && s != "" {
			t.Fatalf("Run(%q): %q, %d, %v", script, s, at, e)
		}
	}
	for _, e := range []api.Errno{api.OK, api.ErrForm, api.ErrArg, api.ErrState} {
		if counts[e] < 5 {
			t.Errorf("only %d times %v", counts[e], e)
		}
		delete(counts, e)
	}
	if len(counts) > 0 {
		t.Errorf("other errors: %v", counts)
	}
}
