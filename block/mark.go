package block

const markSize = 4

// mark is a number as it stands behind a block's entries, the lowest byte
// first.
type mark [markSize]byte

func (m *mark) put(n int) {
	for i := range m {
		m[i] = byte(n >> (8 * i))
	}
}

func (m mark) number() uint32 {
	n := uint32(0)
	for i, b := range m {
		n |= uint32(b) << (8 * i)
	}
	return n
}

// appendPlaces answers out with the restarts' places and their number behind.
func appendPlaces(out []byte, restarts []int) []byte {
	var m mark
	for _, place := range restarts {
		m.put(place)
		out = append(out, m[:]...)
	}
	m.put(len(restarts))
	return append(out, m[:]...)
}

// split tells the bytes of p's entries, which stay p's own memory, from the
// places that are told behind them. It fails where p is too short for as many
// places as it tells.
func split(p []byte) (entries []byte, places []int, ok bool) {
	end := len(p) - markSize
	if end < 0 {
		return nil, nil, false
	}
	count := mark(p[end:]).number()
	if count > uint32(end/markSize) {
		return nil, nil, false
	}
	begin := end - int(count)*markSize
	for at := begin; at < end; at += markSize {
		places = append(places, int(mark(p[at:]).number()))
	}
	return p[:begin], places, true
}
