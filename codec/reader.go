package codec

import (
	"errors"

	"skerry/api"
)

// errNone is what a reader panics with, at whatever depth it comes upon bytes that are none.
var errNone = errors.New("codec: bytes that are none")

// reader goes through bytes: those ahead of at are read.
type reader struct {
	bytes []byte
	at    int
}

// attempt is where a reader's panic ends: false then, and nothing read.
func attempt[T any](read func() T) (got T, ok bool) {
	defer func() {
		ok = recover() == nil
	}()
	got = read()
	return got, true
}

func (r *reader) octet() byte {
	if r.at == len(r.bytes) {
		panic(errNone)
	}
	r.at++
	return r.bytes[r.at-1]
}

func (r *reader) number() uint64 {
	var u uint64
	for shift := 0; ; shift += 7 {
		digit := r.octet()
		tooGreat := shift == 63 && digit > 1
		tooLong := shift > 0 && digit == 0
		if tooGreat || tooLong {
			panic(errNone)
		}
		u |= uint64(digit%128) << shift
		if digit < 128 {
			return u
		}
	}
}

func (r *reader) signed() int {
	return Zag(r.number())
}

func (r *reader) text() string {
	count := r.number()
	// Held against what is left as 64 bits: a count may be more than an int can tell.
	if count > uint64(len(r.bytes)-r.at) {
		panic(errNone)
	}
	start := r.at
	r.at += int(count)
	return string(r.bytes[start:r.at])
}

func (r *reader) key() api.Key {
	var k api.Key
	k.Table = r.text()
	k.Part = r.text()
	k.Row = r.signed()
	k.Column = r.text()
	return k
}

func (r *reader) value() api.Value {
	var v api.Value
	v.Kind = int(r.number())
	v.N = r.signed()
	v.S = r.text()
	return v
}

func (r *reader) version() api.Version {
	var v api.Version
	v.Time = r.signed()
	switch r.octet() {
	case liveMark:
		v.Value = r.value()
	case deadMark:
		v.Dead = true
		v.Local = r.signed()
	default:
		panic(errNone)
	}
	return v
}

// cells reads all there is: bytes behind the last cell are not of any list.
func (r *reader) cells() []api.Cell {
	var l []api.Cell
	// No room is made by a count that the bytes may not keep; they end the loop if it is too great.
	for range r.number() {
		k := r.key()
		l = append(l, api.Cell{Key: k, Version: r.version()})
	}
	if r.at != len(r.bytes) {
		panic(errNone)
	}
	return l
}
