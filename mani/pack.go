package mani

import (
	"bytes"

	"wellspring/api"
	"wellspring/chunk"
)

// How many bytes the numbers of a manifest have; those that are not named here have one.
const (
	seqBytes    = 4
	nextBytes   = 4
	objectBytes = 3
	lengthBytes = 2
)

// Pack returns the bytes of a manifest, and none if it is not valid.
func Pack(m api.Manifest) []byte {
	if !May(m) {
		return nil
	}
	var b []byte
	b = appendNumber(b, seqBytes, m.Seq)
	b = appendNumber(b, nextBytes, m.Next)
	b = append(b, byte(m.P.K), byte(m.P.H), byte(m.P.Size), byte(m.Extra))
	b = append(b, byte(len(m.Drives)))
	b = appendEach(b, m.Drives)
	b = append(b, byte(len(m.Objects)))
	for _, e := range m.Objects {
		b = appendEntry(b, e)
	}
	return b
}

// appendNumber appends n in so many bytes, the highest first.
func appendNumber(b []byte, width, n int) []byte {
	for i := range width {
		b = append(b, byte(n>>(8*(width-1-i))))
	}
	return b
}

// appendEach appends each number of a list in one byte.
func appendEach(b []byte, list []int) []byte {
	for _, n := range list {
		b = append(b, byte(n))
	}
	return b
}

// appendEntry appends an object.
func appendEntry(b []byte, e api.Entry) []byte {
	b = append(b, byte(len(e.Name)))
	b = append(b, e.Name...)
	b = appendNumber(b, objectBytes, e.Object)
	b = appendNumber(b, lengthBytes, e.Length)
	return appendEach(b, e.Tries)
}

// Parse returns the manifest for which Pack returns b, and true. It returns false if
// there is none.
func Parse(b []byte) (api.Manifest, bool) {
	m := read(b)
	// What was read may have been cut short, or may not be all of b. Neither need be looked
	// for while it is read: Pack returns other bytes then.
	if !May(m) || !bytes.Equal(Pack(m), b) {
		return api.Manifest{}, false
	}
	return m, true
}

// read returns the manifest that b begins with, valid or not, or as much of it as there
// is.
func read(b []byte) api.Manifest {
	r := reader{rest: b}
	var m api.Manifest
	m.Seq = r.number(seqBytes)
	m.Next = r.number(nextBytes)
	m.P.K = r.number(1)
	m.P.H = r.number(1)
	m.P.Size = r.number(1)
	m.Extra = r.number(1)
	m.Drives = r.each(r.number(1))
	m.Objects = make([]api.Entry, r.number(1))
	for i := range m.Objects {
		m.Objects[i] = r.entry(m.P)
	}
	return m
}

// reader hands out bytes, from the first one on, as what they tell.
type reader struct{ rest []byte }

// take hands out the next n bytes, or all that are left if these are fewer.
func (r *reader) take(n int) []byte {
	n = min(n, len(r.rest))
	taken := r.rest[:n]
	r.rest = r.rest[n:]
	return taken
}

// number returns the number that the next bytes are, so many of them, the highest first.
func (r *reader) number(width int) int {
	n := 0
	for _, x := range r.take(width) {
		n = n<<8 | int(x)
	}
	return n
}

// each returns the next n bytes as numbers of one byte each.
func (r *reader) each(n int) []int {
	taken := r.take(n)
	list := make([]int, len(taken))
	for i, x := range taken {
		list[i] = int(x)
	}
	return list
}

// entry returns the next object of a manifest with the parameters p.
func (r *reader) entry(p api.Params) api.Entry {
	var e api.Entry
	e.Name = string(r.take(r.number(1)))
	e.Object = r.number(objectBytes)
	e.Length = r.number(lengthBytes)
	e.Tries = r.each(chunk.Count(p, e.Length))
	return e
}
