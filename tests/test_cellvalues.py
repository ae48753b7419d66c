import itertools
import unittest

from stillroom.cellvalues import content_value, tree_value
from sheeted import NONE, content, error, number, text, tree_of
from support import check_copies, drawn

TOP = 10 ** 15
FORM, KIND, ZERO, SIZE, LOOP = [error(word) for word in ("form", "kind", "zero", "size", "loop")]

# Cells of each kind of value. E and F are errors that no sign makes by itself here.
CELLS = {
    (0, 0): number(5), (1, 0): number(-7), (2, 0): NONE, (3, 0): text("b"), (4, 0): LOOP, (5, 0): FORM,
    (6, 0): text(""), (7, 0): number(TOP), (8, 0): number(-TOP), (9, 0): number(0), (10, 0): text("x" * 200),
}


class Contents(unittest.TestCase):
    def check(self, data, value):
        self.assertEqual(content_value(content(data)), value)

    def test_numbers(self):
        for data in ("0", "7", "-7", "123456789012345", "-123456789012345", "999999999999999", "-999999999999999",
                     "10"):
            self.check(data, number(int(data)))

    def test_texts(self):
        for data in ("1234567890123456", "-1234567890123456", "-0", "01", "-01", "00", "-", "--1", "+1", "1.5", "1 ",
                     " 1", "1-", "a", " ", "1e5", "\xb2", "%", "\xff", "-a", "0" * 15, "9" * 18, "9" * 200, " =1",
                     "'=1", "A1"):
            self.check(data, text(data))

    def test_formulas(self):
        self.check("=1", ("formula", number(1)))
        self.check("= 1 + A1 ", ("formula", tree_of("1+A1")))
        self.check('="=1"', ("formula", text("=1")))

    def test_formulas_that_are_none(self):
        for data in ("=", "==1", "=a1", "=1+", "= ", '="', "=1=1=1", "=\xff", "=A1:B2"):
            self.check(data, FORM)

    def test_an_empty_content(self):
        self.check("", NONE)

    def test_copies(self):
        for data in ("5", "ab", "=1+A1", "="):
            check_copies(self, content_value, content(data))


class Trees(unittest.TestCase):
    def check(self, data, value):
        self.assertEqual(tree_value(tree_of(data), CELLS), value, data)


class Leaves(Trees):
    def test_leaves(self):
        self.check("7", number(7))
        self.check('"ab"', text("ab"))
        for name, place in zip("ABCDEFGHIJ", sorted(CELLS)):
            self.check(name + "1", CELLS[place])
        self.check("P32", NONE)
        self.assertEqual(tree_value(tree_of("A1"), {}), NONE)

    def test_copies(self):
        check_copies(self, tree_value, tree_of("SUM(A1:B2,1)+JOIN(A1:D1)"), CELLS)


class Signs(Trees):
    def test_sums_and_products(self):
        for data, found in (("5+7", 12), ("5-7", -2), ("5*7", 35), ("7/5", 1), ("A1+B1", -2), ("A1-B1", 12),
                            ("A1*B1", -35), ("-A1", -5), ("-B1", 7), ("--A1", 5), ("-0", 0), ("1-2-3", -4),
                            ("8/4/2", 1)):
            self.check(data, number(found))

    def test_quotients_are_rounded_down(self):
        for data, found in (("7/2", 3), ("-7/2", -4), ("7/-2", -4), ("-7/-2", 3), ("-6/2", -3), ("0/5", 0), ("0/-5", 0),
                            ("1/2", 0), ("-1/2", -1), ("1/-999999999999999", -1), ("B1/2", -4)):
            self.check(data, number(found))

    def test_none_counts_as_0(self):
        for data, found in (("C1+5", 5), ("5+C1", 5), ("C1-5", -5), ("5-C1", 5), ("C1*5", 0), ("C1/5", 0), ("-C1", 0),
                            ("C1+C1", 0), ("P32-P31", 0)):
            self.check(data, number(found))

    def test_division_by_0(self):
        for data in ("1/0", "0/0", "A1/C1", "1/(1-1)", "C1/C1", "A1/J1"):
            self.check(data, ZERO)
        self.check('"a"/0', KIND)

    def test_texts(self):
        for sign in "+-*/":
            for first, second in (("D1", "1"), ("1", "D1"), ("D1", "D1"), ("G1", "1"), ("1", "G1"), ("C1", "D1"),
                                  ('"1"', "1")):
                self.check(first + sign + second, KIND)
        self.check("-D1", KIND)
        self.check("-G1", KIND)

    def test_bounds(self):
        self.check("H1+0", number(TOP))
        self.check("H1+1", SIZE)
        self.check("H1-1+1", number(TOP))
        self.check("I1-0", number(-TOP))
        self.check("I1-1", SIZE)
        self.check("-H1", number(-TOP))
        self.check("H1*1", number(TOP))
        self.check("H1*-1", number(-TOP))
        self.check("H1*2", SIZE)
        self.check("H1*-2", SIZE)
        self.check("999999999999999*999999999999999", SIZE)
        self.check("999999999999999+1", number(TOP))
        self.check("999999999999999+2", SIZE)
        self.check("I1/-1", number(TOP))
        # An error on the way stays one.
        self.check("(H1+1)-1", SIZE)


class Errors(Trees):
    def test_the_first_error(self):
        for sign in ("+", "-", "*", "/", "=", "<", ">", "<=", ">=", "<>"):
            self.check(f"E1{sign}F1", LOOP)
            self.check(f"F1{sign}E1", FORM)
            self.check(f"1{sign}F1", FORM)
            self.check(f"E1{sign}1", LOOP)
            # An error stands above a wrong kind, and above a division by 0.
            self.check(f"D1{sign}E1", LOOP)
            self.check(f"(1/0){sign}E1", ZERO)
            self.check(f"E1{sign}(1/0)", LOOP)
        self.check("-E1", LOOP)
        self.check("E1/0", LOOP)
        self.check("(1/0)+(D1+1)", ZERO)
        self.check("(D1+1)+(1/0)", KIND)
        self.check("(H1+1)*(1/0)", SIZE)

    def test_in_calls(self):
        for word in ("SUM", "MIN", "MAX", "COUNT", "JOIN"):
            self.check(f"{word}(E1,F1)", LOOP)
            self.check(f"{word}(1,F1,E1)", FORM)
            self.check(f"{word}(D1,F1)", FORM)
            self.check(f"{word}(A1:D1,F1)", FORM)
            self.check(f"{word}(A1:F1)", LOOP)
            self.check(f"{word}(F1:A1)", LOOP)
            self.check(f"{word}(F1,A1:E1)", FORM)
            self.check(f"{word}(1/0,A1:E1)", ZERO)

    def test_above_sizes(self):
        self.check("SUM(H1,H1,E1)", LOOP)
        self.check("JOIN(K1,K1,E1)", LOOP)


class Comparisons(Trees):
    signs = {
        "=": lambda a, b: a == b, "<": lambda a, b: a < b, ">": lambda a, b: a > b, "<=": lambda a, b: a <= b,
        ">=": lambda a, b: a >= b, "<>": lambda a, b: a != b,
    }

    def check_all(self, first, second, one, other):
        """The texts are compared like the values."""
        for sign, holds in self.signs.items():
            self.check(f"{first}{sign}{second}", number(1 if holds(one, other) else 0))

    def test_numbers(self):
        for one, other in itertools.product((-2, -1, 0, 1, 9, 10), repeat=2):
            self.check_all(one, other, one, other)
        self.check_all("H1", "I1", 1, 0)

    def test_texts(self):
        found = ("", "a", "ab", "abc", "b", "B", "aa", "\x7f", "\xff", "0", "10", "9", " ")
        for one, other in itertools.product(found, repeat=2):
            self.check_all(f'"{one}"', f'"{other}"', one.encode("latin-1"), other.encode("latin-1"))

    def test_none(self):
        self.check_all("C1", "C1", 0, 0)
        for one in (-1, 0, 1):
            self.check_all("C1", one, 0, one)
            self.check_all(one, "C1", one, 0)
        for one in ("", "a", "\0"):
            self.check_all("C1", f'"{one}"', "", one)
            self.check_all(f'"{one}"', "C1", one, "")

    def test_a_number_and_a_text(self):
        for sign in self.signs:
            for first, second in (("1", '"1"'), ('"1"', "1"), ("A1", "D1"), ("D1", "A1"), ("0", '""'), ('""', "0")):
                self.check(first + sign + second, KIND)


class Choices(Trees):
    def test_choices(self):
        for test, found in (("1", 2), ("0", 3), ("-1", 2), ("C1", 3), ("1=1", 2), ("1=2", 3), ("H1", 2)):
            self.check(f"IF({test},2,3)", number(found))

    def test_texts(self):
        for test in ("D1", "G1", '"1"', '""'):
            self.check(f"IF({test},2,3)", KIND)

    def test_any_value(self):
        for name, place in zip("ABCDEFGHIJ", sorted(CELLS)):
            self.check(f"IF(1,{name}1,2)", CELLS[place])
            self.check(f"IF(0,2,{name}1)", CELLS[place])

    def test_errors(self):
        self.check("IF(E1,F1,F1)", LOOP)
        self.check("IF(1/0,E1,E1)", ZERO)
        # An argument that is not looked at does not matter.
        self.check("IF(1,2,E1)", number(2))
        self.check("IF(0,E1,2)", number(2))
        self.check("IF(0,1/0,SUM(A1:F1))", LOOP)
        self.check("IF(1,2,SUM(A1:F1))", number(2))
        self.check("IF(D1,E1,E1)", KIND)


class Calls(Trees):
    def test_numbers(self):
        for data, found in (("SUM(1,2,3)", 6), ("MIN(3,1,2)", 1), ("MAX(1,3,2)", 3), ("COUNT(5,5,5)", 3),
                            ("SUM(-1)", -1), ("MIN(-1)", -1), ("MAX(-1)", -1), ("COUNT(-1)", 1), ("MAX(B1,-9)", -7),
                            ("MIN(A1,9)", 5)):
            self.check(data, number(found))

    def test_none_by_itself_counts_as_0(self):
        for data, found in (("SUM(C1)", 0), ("SUM(C1,5)", 5), ("MIN(C1,5)", 0), ("MAX(C1,-5)", 0), ("COUNT(C1,C1)", 2)):
            self.check(data, number(found))

    def test_a_text_by_itself(self):
        for word in ("SUM", "MIN", "MAX", "COUNT"):
            for data in ("D1", "G1", '"1"', "1,D1", "D1,1", "A1:D1,D1"):
                self.check(f"{word}({data})", KIND)

    def test_ranges(self):
        # 5, -7, none and a text.
        for data, found in (("SUM(A1:D1)", -2), ("MIN(A1:D1)", -7), ("MAX(A1:D1)", 5), ("COUNT(A1:D1)", 2),
                            ("SUM(D1:A1)", -2), ("SUM(A1:D1,A1:B1,1)", -3), ("COUNT(A1:D1,C1,9)", 4),
                            ("COUNT(A1:A1)", 1)):
            self.check(data, number(found))

    def test_ranges_without_numbers(self):
        for word in ("SUM", "MIN", "MAX", "COUNT"):
            for data in ("C1:D1", "C1:C1", "D1:D1", "A2:P32", "C1:D1,A9:A9"):
                self.check(f"{word}({data})", number(0))

    def test_the_bounds_of_sums(self):
        self.check("SUM(H1,-1,1)", number(TOP))
        self.check("SUM(H1,1)", SIZE)
        # From left to right: the whole would fit.
        self.check("SUM(H1,1,-1)", SIZE)
        self.check("SUM(I1,-1,1)", SIZE)
        self.check("SUM(H1:I1)", number(0))
        self.check("SUM(H1:I1,H1:I1)", number(0))
        self.check("SUM(H1,H1:I1)", SIZE)
        for word, found in (("MIN", -TOP), ("MAX", TOP), ("COUNT", 4)):
            self.check(f"{word}(H1:I1,H1,I1)", number(found))

    def test_a_wrong_kind_stands_above_a_size(self):
        self.check("SUM(H1,H1,D1)", KIND)

    def test_joins(self):
        for data, found in (('JOIN("a","b")', "ab"), ("JOIN(A1,B1)", "5-7"), ("JOIN(C1)", ""), ("JOIN(A1:D1)", "5-7b"),
                            ("JOIN(D1:A1)", "5-7b"), ("JOIN(D1,A1:D1,1)", "b5-7b1"), ("JOIN(G1)", ""),
                            ("JOIN(-0)", "0"), ("JOIN(H1)", "1000000000000000"), ("JOIN(007)", "7"),
                            ("JOIN(A2:P32)", "")):
            self.check(data, text(found))

    def test_the_bound_of_joins(self):
        self.check("JOIN(K1)", text("x" * 200))
        self.check("JOIN(K1,C1,G1)", text("x" * 200))
        self.check("JOIN(K1,D1)", SIZE)
        self.check("JOIN(D1,K1)", SIZE)
        self.check("JOIN(K1:K1,A1)", SIZE)
        self.check(f'JOIN("{"y" * 100}","{"z" * 80}",H1,A1,A1,A1,A1)',
                   text("y" * 100 + "z" * 80 + "1" + "0" * 15 + "5555"))

    def test_links(self):
        for word in ("LINK", "FETCH"):
            self.check(f'{word}("ab")', text("ab"))
            self.check(f'{word}("")', text(""))
            self.check(f'JOIN({word}("a"),1)', text("a1"))
            self.check(f'{word}("1")+1', KIND)

    def test_the_order_of_the_cells_of_a_range(self):
        cells = {(0, 0): text("a"), (1, 0): text("b"), (0, 1): text("c"), (1, 1): text("d"), (0, 2): LOOP, (1, 2): FORM}
        for data in ("A1:B2", "B2:A1", "A2:B1", "B1:A2"):
            self.assertEqual(tree_value(tree_of(f"JOIN({data})"), cells), text("abcd"))
        self.assertEqual(tree_value(tree_of("SUM(B3:A1)"), cells), LOOP)
        self.assertEqual(tree_value(tree_of("SUM(B3:B1)"), cells), FORM)
        self.assertEqual(tree_value(tree_of("SUM(B1:A3)"), cells), LOOP)

    def test_drawn_sums(self):
        source = drawn(73)
        for _ in range(300):
            cells = {}
            for place in itertools.product(range(4), range(4)):
                cells[place] = source.choice((NONE, text("t"), number(source.randint(-9, 9)),
                                              number(source.randint(-9, 9))))
            first, last = [(source.randint(0, 3), source.randint(0, 3)) for _ in range(2)]
            columns = range(min(first[0], last[0]), max(first[0], last[0]) + 1)
            rows = range(min(first[1], last[1]), max(first[1], last[1]) + 1)
            inside = [cells[column, row] for row in rows for column in columns]
            numbers = [value[1] for value in inside if value[0] == "number"]
            expected = {"SUM": sum(numbers), "MIN": min(numbers, default=0), "MAX": max(numbers, default=0),
                        "COUNT": len(numbers)}
            for word, found in expected.items():
                self.assertEqual(tree_value(("call", word, (("range", first, last),)), cells), number(found))


if __name__ == "__main__":
    unittest.main()
