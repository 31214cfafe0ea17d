package schema

import "pinakes/api"

// Standard returns the rules that records of the union follow.
func Standard() []api.Rule {
	return []api.Rule{
		{Tag: "001", Must: true, Once: true},
		{Tag: "003", Once: true},
		{Tag: "005", Once: true},
		{Tag: "008", Once: true},
		{Tag: "010", Once: true, Ind: [2]string{" ", " "}, Codes: "az", Single: "a"},
		{Tag: "020", Ind: [2]string{" ", " "}, Codes: "acqz", Single: "ac"},
		{Tag: "022", Ind: [2]string{"01 ", " "}, Codes: "ayz", Single: "a"},
		{Tag: "040", Once: true, Ind: [2]string{" ", " "}, Codes: "abcde", Single: "abce"},
		{Tag: "041", Ind: [2]string{"01 ", " "}, Codes: "abdh"},
		{Tag: "082", Ind: [2]string{"01", "04 "}, Codes: "a2", Single: "2"},
		{Tag: "100", Once: true, Ind: [2]string{"013", " "}, Codes: "0abcdq", Single: "0abdq"},
		{Tag: "110", Once: true, Ind: [2]string{"012", " "}, Codes: "0abn", Single: "0a"},
		{Tag: "245", Must: true, Once: true, Ind: [2]string{"01", "0123456789"}, Codes: "abchnp", Single: "abch"},
		{Tag: "246", Ind: [2]string{"0123", "012345678 "}, Codes: "abinp", Single: "abi"},
		{Tag: "250", Ind: [2]string{" ", " "}, Codes: "ab", Single: "ab"},
		{Tag: "260", Ind: [2]string{"23 ", " "}, Codes: "abc"},
		{Tag: "300", Ind: [2]string{" ", " "}, Codes: "abce", Single: "be"},
		{Tag: "490", Ind: [2]string{"01", " "}, Codes: "avx", Single: "x"},
		{Tag: "500", Ind: [2]string{" ", " "}, Codes: "a", Single: "a"},
		{Tag: "600", Ind: [2]string{"013", "01234567"}, Codes: "0abcdtvxyz", Single: "0abdt"},
		{Tag: "650", Ind: [2]string{"012 ", "01234567"}, Codes: "0avxyz", Single: "0a"},
		{Tag: "700", Ind: [2]string{"013", "2 "}, Codes: "0abcdqt", Single: "0abdqt"},
		{Tag: "856", Ind: [2]string{"01234 ", "0128 "}, Codes: "uyz3", Single: "3"},
		{Tag: "9xx", Ind: [2]string{"0123456789 ", "0123456789 "}, Codes: "0123456789abcdefghijklmnopqrstuvwxyz"},
	}
}
