package ops

const (
	// head is what a module's bytes begin with.
	head    = "WARP"
	sumLong = 4
	// fewest is how many bytes there must be, so that their sum is asked at all.
	fewest = len(head) + sumLong
)

// octets are a module's bytes: those that were written, or those that are still to be read.
type octets []byte

// sum tells the sum's bytes.
func (o octets) sum() [sumLong]byte {
	n := uint32(5381)
	for _, b := range o {
		n = 33*n + uint32(b)
	}
	var out [sumLong]byte
	for i := range out {
		out[i] = byte(n >> (8 * i))
	}
	return out
}

// unsealed tells the bytes ahead of the sum; false, if it is not theirs.
func (o octets) unsealed() (octets, bool) {
	if len(o) < fewest {
		return nil, false
	}
	body, sum := o[:len(o)-sumLong], o[len(o)-sumLong:]
	return body, body.sum() == [sumLong]byte(sum)
}
