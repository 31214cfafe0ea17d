package codec

// polynomial is the one of IEEE 802.3, its lowest power in the highest bit, since the register is shifted to the right.
const polynomial uint32 = 0xedb88320

// Sum returns the CRC-32 of s according to IEEE 802.3.
func Sum(s string) uint32 {
	register := ^uint32(0)
	for i := 0; i < len(s); i++ {
		register = shiftByte(register ^ uint32(s[i]))
	}
	return ^register
}

// shiftByte divides out the eight low bits of the register.
func shiftByte(register uint32) uint32 {
	for range 8 {
		out := register & 1
		// -out is all ones or all zeros: a branch on bits that look random would be slow.
		register = register>>1 ^ polynomial&-out
	}
	return register
}
