package grammar

import "iter"

// Enum is an enumerant's name.
func Enum(letter byte, n uint32) (string, bool) {
	for number, name := range Enums(letter) {
		if number == n {
			return name, true
		}
	}
	return "", false
}

// EnumNamed is the enumerant of a name.
func EnumNamed(letter byte, name string) (uint32, bool) {
	for number, its := range Enums(letter) {
		if its == name {
			return number, true
		}
	}
	return 0, false
}

// Enums goes over the enumerants of a letter, rising by their numbers.
func Enums(letter byte) iter.Seq2[uint32, string] {
	return func(yield func(uint32, string) bool) {
		text := enumText(letter)
		// nameFrom is 0 until a number is read: a name may have digits too.
		number, nameFrom := uint32(0), 0
		for at, c := range text {
			switch {
			case c == ';':
				if !yield(number, text[nameFrom:at]) {
					return
				}
				number, nameFrom = 0, 0
			case c == ':':
				nameFrom = at + 1
			case nameFrom == 0:
				number = 10*number + uint32(c-'0')
			}
		}
	}
}

// enumText is the numbers and names of a letter's enumerants, each ended by a semicolon; no bytes, if it is no enumerant's letter.
func enumText(letter byte) string {
	switch letter {
	case 'k': // capabilities
		return "0:Matrix;1:Shader;"
	case 'a': // addressings
		return "0:Logical;"
	case 'm': // memory models
		return "0:Simple;1:GLSL450;"
	case 'e': // execution models
		return "0:Vertex;4:Fragment;"
	case 'x': // execution modes
		return "7:OriginUpperLeft;"
	case 'l': // source languages
		return "0:Unknown;1:ESSL;2:GLSL;"
	case 'c': // storage classes
		return "1:Input;3:Output;6:Private;7:Function;"
	case 'd': // decorations
		return "0:RelaxedPrecision;11:BuiltIn;14:Flat;30:Location;"
	case 'f': // functions' controls
		return "0:None;1:Inline;2:DontInline;4:Pure;8:Const;"
	case 'h': // selections' controls
		return "0:None;1:Flatten;2:DontFlatten;"
	case 'g': // loops' controls
		return "0:None;1:Unroll;2:DontUnroll;"
	}
	return ""
}
