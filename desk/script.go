package desk

import (
	"strings"

	"lattice/api"
	"lattice/cluster"
)

// maxScript is how many bytes a script has.
const maxScript = 60000

// move is a choice, and the number of its line.
type move struct {
	at   int
	what api.Choice
}

// script is what a script says.
type script struct {
	cluster *cluster.Cluster // nil ahead of its line
	moves   []move
}

// Run plays a script.
func Run(text string) (string, int, api.Errno) {
	lines := linesOf(text)
	if len(text) > maxScript || len(lines) > MaxLines {
		return "", 0, api.ErrLong
	}
	var s script
	for i, line := range lines {
		if e := s.read(i+1, line); e != api.OK {
			return "", i + 1, e
		}
	}
	if s.cluster == nil {
		return "", 0, api.ErrForm
	}
	return s.play()
}

// linesOf are a text's lines, without the bytes 10 that end them.
func linesOf(text string) []string {
	lines := strings.Split(text, "\n")
	if last := len(lines) - 1; lines[last] == "" {
		return lines[:last]
	}
	return lines
}

// read takes in what a line says.
func (s *script) read(at int, line string) api.Errno {
	switch {
	case line == "" || line[0] == '#':
		return api.OK
	case s.cluster == nil:
		return s.open(line)
	}
	x, e := Choice(line)
	if e == api.OK {
		s.moves = append(s.moves, move{at: at, what: x})
	}
	return e
}

// open takes in the line of the cluster.
func (s *script) open(line string) (e api.Errno) {
	defer func() {
		if told := recover(); told != nil {
			e = reason(told)
		}
	}()
	s.cluster, e = cluster.New(members(line))
	return e
}

// members is how many nodes the line of the cluster says, or it gives up.
func members(line string) int {
	r := readerOf(line)
	need(r.word() == "cluster")
	var n int
	r.number(&n)
	r.end()
	return n
}

// play does the choices, one behind the other.
func (s *script) play() (string, int, api.Errno) {
	var out strings.Builder
	for _, m := range s.moves {
		answers, e := s.cluster.Step(m.what)
		if e != api.OK {
			return "", m.at, e
		}
		for _, a := range answers {
			line, _ := Answer(a) // a cluster's codes are right
			out.WriteString(line + "\n")
		}
	}
	return out.String(), 0, api.OK
}
