package replica

import (
	"bytes"

	"lattice/api"
	"lattice/crc"
	"lattice/disk"
	"lattice/record"
	"lattice/vote"
	"lattice/wal"
	"lattice/wire"
)

// Kinds of entries, the first bytes of their texts.
const (
	entryRecord  = 1
	entryCut     = 2
	entryPromise = 3
)

// How many bytes the parts of an entry have, and the last of them.
const (
	textSize = 2 // of how many a text has
	sumSize  = 4
	endSize  = 1
	endByte  = 165

	bare        = textSize + sumSize + endSize // what an entry has beside its text
	promiseSize = 13                           // of a promise
	frameSize   = 43 + api.PageSize            // of the longest record, which has a page

	cutEntry     = bare + kindSize + lsnSize
	promiseEntry = bare + kindSize + promiseSize
	recordEntry  = bare + kindSize + frameSize // at most
)

// room is how many bytes a journal may have. A log of that many is far below MaxRecords, and a tree below MaxPages: it is always the journal that is full first.
const room = Sectors * api.PageSize

// Journal is what a journal says: the log, the promise, how many bytes.
func Journal(b []byte) ([]api.Record, vote.Promise, int) {
	s, size := heard(b)
	return all(s.log), s.promise, size
}

// saying is what a journal says.
type saying struct {
	log     *wal.Log
	promise vote.Promise
}

// heard is what the entries say with which bytes begin, and how many bytes these have.
func heard(b []byte) (*saying, int) {
	s, size := &saying{log: wal.New(), promise: vote.Promise{For: -1}}, 0
	for {
		text, whole := firstEntry(b[size:])
		if !whole || !s.hear(text) {
			return s, size
		}
		size += bare + len(text)
	}
}

// firstEntry is the text of the entry with which bytes begin, if it is whole. No more of them is read than the longest entry has: many may stand behind it. A reader that failed stays so, so that it is asked once, at the end.
func firstEntry(b []byte) (string, bool) {
	r := wire.Of(b[:min(len(b), recordEntry)])
	text, _ := r.Text(maxText)
	sum, _ := r.Num(sumSize)
	end, e := r.Num(endSize)
	if e != api.OK || sum != crc.Sum([]byte(text)) || end != endByte {
		return "", false
	}
	return text, true
}

// hear does what an entry's text says, and tells whether it is right.
func (s *saying) hear(text string) bool {
	if text == "" {
		return false
	}
	kind, what := text[0], []byte(text[1:])
	switch kind {
	case entryRecord:
		return s.hearRecord(what)
	case entryCut:
		return s.hearCut(what)
	case entryPromise:
		return s.hearPromise(what)
	}
	return false
}

func (s *saying) hearRecord(b []byte) bool {
	r, size, e := record.Decode(b)
	last, _ := s.log.Last()
	if e != api.OK || size != len(b) || r.LSN != last+1 {
		return false
	}
	_, e = s.log.Append(r)
	return e == api.OK
}

func (s *saying) hearCut(b []byte) bool {
	r := wire.Of(b)
	lsn, _ := r.Num(lsnSize)
	return r.End() == api.OK && s.log.Cut(lsn) == api.OK
}

func (s *saying) hearPromise(b []byte) bool {
	p, e := vote.Decode(b)
	if e != api.OK || len(b) != promiseSize || p.Epoch < s.promise.Epoch {
		return false
	}
	s.promise = p
	return true
}

// entry is the entry of a kind. No text of one, and no number, is too great to be written.
func entry(kind int, what []byte) []byte {
	text := append([]byte{byte(kind)}, what...)
	w := wire.New()
	w.Text(string(text))
	w.Num(crc.Sum(text), sumSize)
	w.Num(endByte, endSize)
	return w.Bytes()
}

// journal is a disk in whose bytes a journal stands.
type journal struct {
	disk   *disk.Disk
	size   int // of its entries
	synced int // up to where they last
	torn   int // up to where bytes of one that was torn stand behind them
}

// newJournal is one without entries.
func newJournal() *journal {
	d, _ := disk.New(Sectors) // as many as a disk may have
	return &journal{disk: d}
}

// open is what the journal says as it lasts.
func (j *journal) open() *saying {
	b := make([]byte, 0, room)
	for i := range Sectors {
		sector, _ := j.disk.Lasts(i)
		b = append(b, sector...)
	}
	s, size := heard(b)
	last, _ := s.log.Last()
	s.log.Flush(last) // which it has
	j.size, j.synced, j.torn = size, size, len(bytes.TrimRight(b, "\x00"))
	return s
}

// addRecord, addCut and addPromise have the journal say one thing more, for which it must have room.

func (j *journal) addRecord(r api.Record) {
	frame, _ := record.Encode(r) // a log's records are right
	j.add(entry(entryRecord, frame))
}

func (j *journal) addCut(lsn int) {
	w := wire.New()
	w.Num(lsn, lsnSize)
	j.add(entry(entryCut, w.Bytes()))
}

func (j *journal) addPromise(p vote.Promise) {
	b, _ := vote.Encode(p) // a voter's promise is right
	j.add(entry(entryPromise, b))
}

// add writes an entry behind the others.
func (j *journal) add(b []byte) {
	j.wipe()
	for len(b) > 0 {
		i, at := j.size/api.PageSize, j.size%api.PageSize
		sector, _ := j.disk.Read(i)
		n := copy(sector[at:], b)
		j.disk.Write(i, sector)
		j.size += n
		b = b[n:]
	}
}

// wipe has bytes 0 stand behind the entries, where one was torn: what is left of it might be taken for an entry, where a shorter one ends ahead of it. The last sector is wiped first, so that what is left is a beginning of that entry at each crash.
func (j *journal) wipe() {
	for j.torn > j.size {
		i := (j.torn - 1) / api.PageSize
		begin := i * api.PageSize
		sector, _ := j.disk.Read(i)
		j.disk.Write(i, sector[:max(j.size-begin, 0)])
		j.torn = begin
	}
}

// sync has all last.
func (j *journal) sync() {
	j.disk.Sync()
	j.synced = j.size
}

// crash has the disk crash.
func (j *journal) crash(keep, torn int) api.Errno { return j.disk.Crash(keep, torn) }

// isSynced tells whether all entries last.
func (j *journal) isSynced() bool { return j.synced == j.size }

// has tells whether there is room for so many bytes more.
func (j *journal) has(n int) bool { return j.size+n <= room }

// waits is how many writes wait; there is no journal of a node that New has not made.
func (j *journal) waits() int {
	if j == nil {
		return 0
	}
	return j.disk.Waits()
}
