package batch_test

import (
	"bytes"
	"fmt"
	"math/bits"
	"slices"
	"testing"

	"bootprint/api"
)

const greatest = 1<<64 - 1

func put(key, value string) api.Write {
	return api.Write{Kind: api.WritePut, Key: []byte(key), Value: []byte(value)}
}

func del(key string) api.Write {
	return api.Write{Kind: api.WriteDelete, Key: []byte(key)}
}

func of(seq uint64, writes ...api.Write) api.Batch {
	return api.Batch{Seq: seq, Writes: writes}
}

// times answers a batch of n times the same write.
func times(seq uint64, n int, w api.Write) api.Batch {
	return of(seq, slices.Repeat([]api.Write{w}, n)...)
}

// sized answers a write with a Key and a Value of so many bytes.
func sized(kind, key, value int) api.Write {
	return api.Write{Kind: kind, Key: bytes.Repeat([]byte{'k'}, key), Value: bytes.Repeat([]byte{'v'}, value)}
}

// filled answers a batch of n puts that has just so many bytes.
func filled(t *testing.T, seq uint64, n, total int) api.Batch {
	t.Helper()
	b := times(seq, n-1, sized(api.WritePut, 1, total/n-8))
	b.Writes = append(b.Writes, sized(api.WritePut, 1, 0))
	last := &b.Writes[n-1]
	for last.Value = make([]byte, total-length(b)); length(b) > total; {
		last.Value = last.Value[1:]
	}
	if length(b) != total || len(last.Value) > api.MaxValue {
		t.Fatalf("a batch of %d bytes has %d, the last Value %d", total, length(b), len(last.Value))
	}
	return b
}

// short tells a short number as the chapter of numbers says it.
func short(n uint64) string {
	var b []byte
	for ; n >= 128; n /= 128 {
		b = append(b, byte(n%128+128))
	}
	return string(append(b, byte(n)))
}

func piece(p []byte) string {
	return short(uint64(len(p))) + string(p)
}

// byWords tells the bytes of a batch as the chapter says them, whether it may
// be or not.
func byWords(b api.Batch) string {
	var s bytes.Buffer
	s.WriteString(short(b.Seq) + short(uint64(len(b.Writes))))
	for _, w := range b.Writes {
		s.WriteByte(byte(w.Kind))
		s.WriteString(piece(w.Key))
		if w.Kind == api.WritePut {
			s.WriteString(piece(w.Value))
		}
	}
	return s.String()
}

// length tells how many bytes those are.
func length(b api.Batch) int {
	n := len(short(b.Seq)) + len(short(uint64(len(b.Writes))))
	for _, w := range b.Writes {
		n += 1 + len(short(uint64(len(w.Key)))) + len(w.Key)
		if w.Kind == api.WritePut {
			n += len(short(uint64(len(w.Value)))) + len(w.Value)
		}
	}
	return n
}

// told writes a batch as a text, so that it is compared whole.
func told(b api.Batch) string {
	s := fmt.Sprint(b.Seq, ":")
	for _, w := range b.Writes {
		s += fmt.Sprintf(" %d %q %q", w.Kind, w.Key, w.Value)
	}
	return s
}

// toldEntries writes entries as a text, so that they are compared whole.
func toldEntries(l []api.Entry) string {
	s := ""
	for _, e := range l {
		s += fmt.Sprintf("%q at %d: %d %q; ", e.Key, e.Seq, e.Kind, e.Value)
	}
	return s
}

// source draws numbers, the same ones each time.
type source uint64

func (s *source) below(n int) int {
	*s = source(bits.RotateLeft64(uint64(*s)*6364136223846793005+1442695040888963407, 23))
	return int(uint64(*s) >> 11 % uint64(n))
}

func (s *source) bytes(n int) []byte {
	b := make([]byte, n)
	for i := range b {
		b[i] = byte(s.below(256))
	}
	return b
}

// key draws a short one of few letters, so that many are alike, or begin alike.
func (s *source) key() []byte {
	b := make([]byte, 1+s.below(3))
	for i := range b {
		b[i] = []byte{0, 1, 'a', 255}[s.below(4)]
	}
	return b
}

// seq draws one of few bytes, or of many; never so great that no batch fits.
func (s *source) seq() uint64 {
	return 1 + uint64(s.below(1<<53))>>s.below(54)
}

// batch draws one that may be.
func (s *source) batch(most int) api.Batch {
	b := api.Batch{Seq: s.seq()}
	for range 1 + s.below(most) {
		w := api.Write{Kind: api.WriteDelete, Key: s.key()}
		if s.below(3) > 0 {
			w.Kind, w.Value = api.WritePut, s.bytes(s.below(200))
		}
		b.Writes = append(b.Writes, w)
	}
	return b
}

// fine fails unless the error is OK.
func fine(t *testing.T, what string, e api.Errno) {
	t.Helper()
	if e != api.OK {
		t.Fatalf("%s: %d, want OK", what, e)
	}
}

// refused fails unless e is the error that is wanted.
func refused(t *testing.T, what string, e, want api.Errno) {
	t.Helper()
	if e != want {
		t.Errorf("%s: %d, want %d", what, e, want)
	}
}

// shortly tells what a text begins with.
func shortly(s string) string {
	if len(s) > 60 {
		return fmt.Sprintf("%q.. (%d bytes)", s[:60], len(s))
	}
	return fmt.Sprintf("%q", s)
}
