// Package sum computes CRC-32C checksums: see the document's chapter 1.
package sum

// low and high hold what eight shifts make of the numbers from 0 to 15 and of these times 16: the shifts of a byte are those of its two halves, combined, and two short tables spare most of the time that eight steps a byte take.
var low = [16]uint32{
	0x00000000, 0xF26B8303, 0xE13B70F7, 0x1350F3F4, 0xC79A971F, 0x35F1141C, 0x26A1E7E8, 0xD4CA64EB,
	0x8AD958CF, 0x78B2DBCC, 0x6BE22838, 0x9989AB3B, 0x4D43CFD0, 0xBF284CD3, 0xAC78BF27, 0x5E133C24,
}

var high = [16]uint32{
	0x00000000, 0x105EC76F, 0x20BD8EDE, 0x30E349B1, 0x417B1DBC, 0x5125DAD3, 0x61C69362, 0x7198540D,
	0x82F63B78, 0x92A8FC17, 0xA24BB5A6, 0xB21572C9, 0xC38D26C4, 0xD3D3E1AB, 0xE330A81A, 0xF36E6F75,
}

// Of returns the checksum of its parts, one after another.
func Of(parts ...[]byte) uint32 {
	c := uint32(0)
	for _, p := range parts {
		c = On(c, p)
	}
	return c
}

// On returns the checksum c continued with the bytes p.
func On(c uint32, p []byte) uint32 {
	s := ^c
	for _, x := range p {
		s ^= uint32(x)
		s = s>>8 ^ low[s&15] ^ high[s>>4&15]
	}
	return ^s
}

// Sum is a checksum that grows; a declared one represents no bytes.
type Sum struct {
	c uint32
}

// Add appends p to the bytes that the Sum represents.
func (s *Sum) Add(p []byte) {
	if s != nil {
		s.c = On(s.c, p)
	}
}

// Value returns the checksum of all bytes that were added.
func (s *Sum) Value() uint32 {
	if s == nil {
		return 0
	}
	return s.c
}
