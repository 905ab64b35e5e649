package volume

const (
	units   = 255   // the elements but 0: each is a power of 2
	modulus = 0x11d // x^8 + x^4 + x^3 + x^2 + 1
)

// field holds the logarithms of the elements to the base 2, and the powers of 2: these twice over, so that the sum of two logarithms is the place of a power.
type field struct {
	log [units + 1]uint8
	pow [2 * units]uint8
}

func filled() *field {
	f := &field{}
	x := 1
	for i := range units {
		f.log[x] = uint8(i)
		f.pow[i] = uint8(x)
		f.pow[i+units] = uint8(x)
		x <<= 1
		if x > units {
			x ^= modulus
		}
	}
	return f
}

func (f *field) times(a, b byte) byte {
	if a == 0 || b == 0 {
		return 0
	}
	return f.pow[int(f.log[a])+int(f.log[b])]
}

// inverse is asked of elements other than 0 alone.
func (f *field) inverse(a byte) byte { return f.pow[units-int(f.log[a])] }

// weight tells how much the value at one of the points, the one of that number, counts for the value at x: the polynomial through 1 there and 0 at the others. The points are all unlike.
func (f *field) weight(points []byte, number int, x byte) byte {
	w := byte(1)
	for i, p := range points {
		if i != number {
			w = f.times(w, f.times(x^p, f.inverse(points[number]^p)))
		}
	}
	return w
}
