import unittest

from stillroom.formulas import count_trees, read_formula, used_places, write_formula
from sheeted import tree_of
from support import check_copies, drawn

A1, B2, P32 = ("place", 0, 0), ("place", 1, 1), ("place", 15, 31)
ONE, TWO, THREE = ("number", 1), ("number", 2), ("number", 3)
COMPARISONS = ("=", "<", ">", "<=", ">=", "<>")
WORDS = ("SUM", "MIN", "MAX", "COUNT", "IF", "JOIN", "LINK", "FETCH")
RANGE_WORDS = ("SUM", "MIN", "MAX", "COUNT", "JOIN")


def pair(sign, first, second):
    return "pair", sign, first, second


def call(word, *arguments):
    return "call", word, arguments


def text(data):
    return "text", tuple(data.encode("latin-1"))


class Reading(unittest.TestCase):
    def check(self, data, tree):
        self.assertEqual(tree_of(data), tree, data)

    def check_none(self, *texts):
        for data in texts:
            self.assertIsNone(tree_of(data), data)


class Parts(Reading):
    def test_numbers(self):
        for data, found in (("0", 0), ("7", 7), ("123456789012345", 123456789012345),
                            ("999999999999999", 10 ** 15 - 1)):
            self.check(data, ("number", found))
        self.check("007", ("number", 7))
        self.check("0" * 15, ("number", 0))
        self.check_none("1" * 16, "0" * 16, "1.5", "1e5", "0x1", "1A", "12B3", "1_000", "A", "\u00b2")

    def test_texts(self):
        for data in ("", "abc", " ", "a b", "=1+2", "'", "\\", "%", "\r", "\0", "\xff", "((", "A1:B2,"):
            self.check(f'"{data}"', text(data))
        self.check_none('"', '"abc', 'abc"', '"a"b"', '"a\nb"', '"\n"', '"\n', "'a'", '"a""b"', '""""', '"a" "b"')

    def test_places(self):
        self.check("A1", A1)
        self.check("P32", P32)
        self.check("B2", B2)
        self.check_none("A0", "A33", "Q1", "a1", "A01", "AA1", "A1A", "A", "A1B2", "$A$1", "A100", "A1 B2", "A 1",
                        "A1.")

    def test_words(self):
        self.check("SUM(1)", call("SUM", ONE))
        self.check_none("SUM", "sum(1)", "Sum(1)", "SUMS(1)", "SUM1(1)", "AVG(1)", "TRUE", "S UM(1)", "SUM1", "NOT(1)",
                        "1SUM(1)", "IFS(1,2,3)", "SUM[1]")

    def test_rows_of_letters_and_digits(self):
        # Each row is one part as far as it goes.
        self.check_none("A1SUM(1)", "1A1", "SUMA1", "A1 1", "1 1", "A1A1", "1SUM", "LINKFETCH(\"a\")", "aA1", "A1a",
                        "1a")

    def test_signs(self):
        for sign in "+-*/" :
            self.check(f"1{sign}2", pair(sign, ONE, TWO))
        for sign in COMPARISONS:
            self.check(f"1{sign}2", pair(sign, ONE, TWO))
        self.check_none("1==2", "1=<2", "1=>2", "1><2", "1<>=2", "1<<2", "1< =2", "1> =2", "1< >2", "1!2", "1&2", "1^2",
                        "1;2", "{1}", "[1]", "1\t+2", "1\n+2", "1\r", "\0", "1,2", "1:2", "A1:B2", "?", "1@", "#", "%",
                        "$1")

    def test_the_longest_sign(self):
        self.check("1<=2", pair("<=", ONE, TWO))
        self.check("1<-2", pair("<", ONE, ("minus", TWO)))
        self.check("1<>-2", pair("<>", ONE, ("minus", TWO)))
        self.check("1>=-2", pair(">=", ONE, ("minus", TWO)))

    def test_spaces(self):
        tree = call("SUM", pair("+", ONE, ("minus", TWO)), ("range", (0, 0), (1, 1)))
        for data in ("SUM(1+-2,A1:B2)", " SUM ( 1 + - 2 , A1 : B2 ) ", "   SUM(   1+-2,A1:B2)   ", "SUM(1 +-2,A1 :B2)"):
            self.check(data, tree)
        self.check('  "a  b"  ', text("a  b"))
        self.check(" 1 <= 2 ", pair("<=", ONE, TWO))
        self.check_none("1 2", "12 34", "A 1", "SU M(1)", "< =", " ", "   ")

    def test_nothing(self):
        self.check_none("", " ", "+", "()", "(", ")", ",", ":", "=", "-", "*1", "/1", "1+", "1*", "1-", "1/", "1=",
                        "=1", "<1", "+1")


class Trees(Reading):
    def test_from_left_to_right(self):
        self.check("1-2-3", pair("-", pair("-", ONE, TWO), THREE))
        self.check("1/2/3", pair("/", pair("/", ONE, TWO), THREE))
        self.check("1+2-3", pair("-", pair("+", ONE, TWO), THREE))
        self.check("1*2/3", pair("/", pair("*", ONE, TWO), THREE))

    def test_products_before_sums_before_comparisons(self):
        self.check("1+2*3", pair("+", ONE, pair("*", TWO, THREE)))
        self.check("1*2+3", pair("+", pair("*", ONE, TWO), THREE))
        self.check("1*2+3*A1", pair("+", pair("*", ONE, TWO), pair("*", THREE, A1)))
        self.check("1+2<3*A1", pair("<", pair("+", ONE, TWO), pair("*", THREE, A1)))

    def test_parentheses(self):
        for data in ("(1)", "((1))", "( ( 1 ) )"):
            self.check(data, ONE)
        self.check("(1+2)*3", pair("*", pair("+", ONE, TWO), THREE))
        self.check("1-(2-3)", pair("-", ONE, pair("-", TWO, THREE)))
        self.check("(1<2)+3", pair("+", pair("<", ONE, TWO), THREE))
        for sign in "+-*/),:=<>":
            # Only a parenthesis opens what one closes.
            self.check_none(sign + "1)", "2*" + sign + "1)", "SUM(" + sign + "1))")
        self.check_none("(1", "1)", "(1))", "((1)", "()", "(1)2", "1(2)", "(1)(2)", "(1,2)", "(A1:B2)", ")1(")

    def test_comparisons_side_by_side(self):
        for first in COMPARISONS:
            for second in COMPARISONS:
                self.check_none(f"1{first}2{second}3")
                self.check(f"(1{first}2){second}3", pair(second, pair(first, ONE, TWO), THREE))
                self.check(f"1{first}(2{second}3)", pair(first, ONE, pair(second, TWO, THREE)))

    def test_minus(self):
        self.check("-1", ("minus", ONE))
        self.check("--1", ("minus", ("minus", ONE)))
        self.check("-1+2", pair("+", ("minus", ONE), TWO))
        self.check("-1*2", pair("*", ("minus", ONE), TWO))
        self.check("1--2", pair("-", ONE, ("minus", TWO)))
        self.check("1*-2", pair("*", ONE, ("minus", TWO)))
        self.check("-(1+2)", ("minus", pair("+", ONE, TWO)))
        self.check('-"a"', ("minus", text("a")))
        self.check("-SUM(1)", ("minus", call("SUM", ONE)))
        self.check_none("-", "--", "1-", "-*1", "-)", "+-1", "1-+2")


class Calls(Reading):
    def test_numbers_of_arguments(self):
        for word in WORDS:
            argument = '"a"' if word in ("LINK", "FETCH") else "1"
            right = {"IF": (3,), "LINK": (1,), "FETCH": (1,)}.get(word, range(1, 9))
            for count in range(10):
                data = f"{word}({','.join([argument] * count)})"
                if count in right:
                    found = text("a") if argument != "1" else ONE
                    self.check(data, call(word, *[found] * count))
                else:
                    self.check_none(data)

    def test_missing_arguments(self):
        self.check_none("SUM(,1)", "SUM(1,)", "SUM(1,,2)", "SUM(,)", "SUM(1", "SUM(1,2", "SUM 1", "SUM1)", "SUM(1 2)",
                        "SUM(1;2)", "SUM(1))", "IF(1,2,)", "IF(,1,2)", "SUM()(1)")

    def test_arguments(self):
        self.check("SUM(1<2,A1,-3)", call("SUM", pair("<", ONE, TWO), A1, ("minus", THREE)))
        self.check("IF(A1,SUM(1),MAX(2,3))", call("IF", A1, call("SUM", ONE), call("MAX", TWO, THREE)))
        self.check("SUM((1))", call("SUM", ONE))

    def test_ranges(self):
        for word in RANGE_WORDS:
            self.check(f"{word}(A1:B2)", call(word, ("range", (0, 0), (1, 1))))
            tree = call(word, ("range", (1, 1), (0, 0)), ONE, ("range", (15, 31), (15, 31)))
            self.check(f"{word}(B2:A1,1,P32:P32)", tree)
            self.check(f"{word}(A1,B2)", call(word, A1, B2))
        for word in ("LINK", "FETCH"):
            self.check_none(f"{word}(A1:B2)")
        self.check_none("IF(A1:B2,1,2)", "IF(1,A1:B2,2)", "IF(1,2,A1:B2)")

    def test_no_ranges(self):
        self.check_none("A1:B2", "SUM(A1:B2+1)", "SUM(1+A1:B2)", "SUM((A1:B2))", "SUM(-A1:B2)", "SUM(A1:B2:A1)",
                        "SUM(A1:)", "SUM(:A1)", "SUM(1:2)", "SUM(A1:2)", "SUM(A1:B2<1)", "SUM(A1:(B2))", "SUM((A1):B2)",
                        "SUM(A1::B2)", "SUM(A1:B)", "SUM(A1:SUM(1))", "SUM(A1:B2", "SUM(A1:B2 A1)")

    def test_link_and_fetch(self):
        for word in ("LINK", "FETCH"):
            for data in ('"a"', '("a")', '( ( "a" ) )', '""'):
                self.check(f"{word}({data})", call(word, text("" if data == '""' else "a")))
            self.check_none(f"{word}(1)", f"{word}(A1)", f'{word}("a"+"b")', f'{word}(JOIN("a"))', f'{word}(-"a")',
                            f'{word}("a"="a")', f'{word}("a","b")', f"{word}()", f'{word}(LINK("a"))')


class Depths(Reading):
    def test_a_depth_of_24_and_25(self):
        # A sum of n numbers has the depth n.
        for count in (23, 24):
            tree = ONE
            for _ in range(count - 1):
                tree = pair("+", tree, ONE)
            self.check("+".join("1" * count), tree)
            self.assertIsNotNone(tree_of("*".join("1" * count)))
        for count in (25, 26, 100):
            self.check_none("+".join("1" * count), "*".join("1" * count), "-".join("1" * count), "/".join("1" * count))

    def test_depths_of_other_trees(self):
        self.assertIsNotNone(tree_of("-" * 23 + "1"))
        self.check_none("-" * 24 + "1")
        self.assertIsNotNone(tree_of("SUM(" * 23 + "1" + ")" * 23))
        self.check_none("SUM(" * 24 + "1" + ")" * 24)
        self.assertIsNotNone(tree_of("SUM(" * 23 + "A1:B2" + ")" * 23))
        self.check_none("SUM(" * 24 + "A1:B2" + ")" * 24)
        # Depths add up, on either side.
        self.assertIsNotNone(tree_of("1+" * 22 + "-1+1"))
        deep = "+".join("1" * 23)
        self.assertIsNotNone(tree_of(f"1<{deep}"))
        self.assertIsNotNone(tree_of(f"1+({deep})"))
        self.check_none(f"1<1+{deep}", f"1+({deep}+1)", f"-({deep}+1)", f"SUM(1,{deep}+1)")

    def test_24_and_25_parentheses(self):
        for around, data in ((24, "1"), (24, "A1"), (24, '"a"'), (0, "1")):
            self.assertIsNotNone(tree_of("(" * around + data + ")" * around))
        for data in ("1", "A1", '"a"'):
            self.check_none("(" * 25 + data + ")" * 25)
        self.check_none("(" * 99 + "1" + ")" * 99)

    def test_parentheses_calls_and_minus_together(self):
        self.check("(" * 12 + "-" * 6 + "(" * 6 + "1" + ")" * 18, tree_of("-" * 6 + "1"))
        self.check_none("(" * 12 + "-" * 6 + "(" * 7 + "1" + ")" * 19)
        self.check("(" * 20 + "SUM(" * 4 + "1" + ")" * 24, tree_of("SUM(" * 4 + "1" + ")" * 4))
        self.check_none("(" * 21 + "SUM(" * 4 + "1" + ")" * 25)
        self.check_none("(" * 20 + "SUM(" * 4 + "-1" + ")" * 24)
        # What stands beside is not around.
        self.assertIsNotNone(tree_of("(" * 24 + "1" + ")" * 24 + "+" + "(" * 24 + "1" + ")" * 24))
        self.assertIsNotNone(tree_of("(" * 23 + "(1)+(2)*(3)" + ")" * 23))
        self.check_none("(" * 24 + "1+(2)" + ")" * 24)

    def test_a_range_is_no_factor(self):
        self.check("(" * 24 + "SUM(A1:B2)" + ")" * 24, call("SUM", ("range", (0, 0), (1, 1))))
        self.check_none("(" * 24 + "SUM(A1)" + ")" * 24)
        self.check_none("(" * 25 + "SUM(A1:B2)" + ")" * 25)

    def test_long_texts(self):
        # 200 bytes of any kind end, with or without a tree.
        for data in ("(" * 200, "-" * 200, "SUM(" * 50, "1+" * 100, '"' * 200, "1" * 200, "A" * 200, "((1)" * 50,
                     "1<" * 100):
            self.check_none(data)
        self.check('"' + "a" * 198 + '"', text("a" * 198))


class Writing(unittest.TestCase):
    def check(self, tree, data):
        self.assertEqual(write_formula(tree), list(data.encode("latin-1")))
        self.assertEqual(tree_of(data), tree)

    def test_leaves(self):
        self.check(("number", 0), "0")
        self.check(("number", 999999999999999), "999999999999999")
        self.check(text("a b\xff"), '"a b\xff"')
        self.check(text(""), '""')
        self.check(P32, "P32")
        self.check(call("SUM", ("range", (1, 1), (0, 0)), A1), "SUM(B2:A1,A1)")

    def test_calls(self):
        self.check(call("IF", pair("<", ONE, TWO), pair("+", ONE, TWO), ("minus", A1)), "IF(1<2,1+2,-A1)")
        self.check(call("LINK", text("a")), 'LINK("a")')
        self.check(call("SUM", *[ONE] * 8), "SUM(1,1,1,1,1,1,1,1)")

    def test_around_comparisons(self):
        less = pair("<", ONE, TWO)
        self.check(less, "1<2")
        self.check(pair("=", less, THREE), "(1<2)=3")
        self.check(pair("=", THREE, less), "3=(1<2)")
        self.check(pair("+", less, THREE), "(1<2)+3")
        self.check(pair("-", THREE, less), "3-(1<2)")
        self.check(pair("*", less, THREE), "(1<2)*3")
        self.check(pair("/", THREE, less), "3/(1<2)")
        self.check(("minus", less), "-(1<2)")
        self.check(call("SUM", less), "SUM(1<2)")

    def test_around_sums(self):
        for sign in "+-":
            total = pair(sign, ONE, TWO)
            for other in "+-":
                self.check(pair(other, total, THREE), f"1{sign}2{other}3")
                self.check(pair(other, THREE, total), f"3{other}(1{sign}2)")
            for other in "*/":
                self.check(pair(other, total, THREE), f"(1{sign}2){other}3")
                self.check(pair(other, THREE, total), f"3{other}(1{sign}2)")
            for other in COMPARISONS:
                self.check(pair(other, total, THREE), f"1{sign}2{other}3")
                self.check(pair(other, THREE, total), f"3{other}1{sign}2")
            self.check(("minus", total), f"-(1{sign}2)")
            self.check(call("SUM", total, total), f"SUM(1{sign}2,1{sign}2)")

    def test_around_products(self):
        for sign in "*/":
            product = pair(sign, ONE, TWO)
            for other in "+-":
                self.check(pair(other, product, THREE), f"1{sign}2{other}3")
                self.check(pair(other, THREE, product), f"3{other}1{sign}2")
            for other in "*/":
                self.check(pair(other, product, THREE), f"1{sign}2{other}3")
                self.check(pair(other, THREE, product), f"3{other}(1{sign}2)")
            for other in COMPARISONS:
                self.check(pair(other, product, THREE), f"1{sign}2{other}3")
                self.check(pair(other, THREE, product), f"3{other}1{sign}2")
            self.check(("minus", product), f"-(1{sign}2)")
            self.check(call("SUM", product), f"SUM(1{sign}2)")

    def test_around_minus(self):
        minus = ("minus", ONE)
        for sign in ("+", "-", "*", "/") + COMPARISONS:
            self.check(pair(sign, minus, TWO), f"-1{sign}2")
            self.check(pair(sign, TWO, minus), f"2{sign}-1")
        self.check(("minus", minus), "--1")

    def test_without_spaces(self):
        tree = tree_of(" ( 1 + ( 2 ) ) * SUM ( A1 : B2 , ( 3 ) ) ")
        self.assertEqual(write_formula(tree), list(b"(1+2)*SUM(A1:B2,3)"))

    def drawn_tree(self, source, room):
        kinds = ("number", "place", "minus", "pair", "pair", "call")
        kind = source.choice(("number", "text", "place") if room <= 1 else kinds)
        if kind == "number":
            return "number", source.choice((0, 1, 10 ** 15 - 1, source.randint(0, 99)))
        if kind == "text":
            return text(source.choice(("", "a", "(", "A1 ")))
        if kind == "place":
            return "place", source.randint(0, 15), source.randint(0, 31)
        if kind == "minus":
            return "minus", self.drawn_tree(source, room - 1)
        if kind == "pair":
            sign = source.choice(("+", "-", "*", "/") + COMPARISONS)
            return pair(sign, self.drawn_tree(source, room - 1), self.drawn_tree(source, room - 1))
        return self.drawn_call(source, room)

    def drawn_call(self, source, room):
        word = source.choice(WORDS)
        if word in ("LINK", "FETCH"):
            return call(word, text("x"))
        found = []
        for _ in range(3 if word == "IF" else source.randint(1, 8)):
            if word != "IF" and source.random() < 0.3:
                places = [(source.randint(0, 15), source.randint(0, 31)) for _ in range(2)]
                found.append(("range", *places))
            else:
                found.append(self.drawn_tree(source, min(room - 1, 2)))
        return call(word, *found)

    def loose(self, source, tree):
        """A text of a tree with spaces, and with more parentheses than needed."""
        kind = tree[0]
        gap = " " * source.randint(0, 2)
        if kind in ("number", "place"):
            data = bytes(write_formula(tree)).decode()
        elif kind == "text":
            data = '"' + bytes(tree[1]).decode("latin-1") + '"'
        elif kind == "minus":
            data = f"-{gap}({self.loose(source, tree[1])})"
        elif kind == "pair":
            data = f"({self.loose(source, tree[2])}){gap}{tree[1]}{gap}({self.loose(source, tree[3])})"
        else:
            parts = [bytes(write_formula(part)).decode().replace(":", gap + ":") if part[0] == "range"
                     else self.loose(source, part) for part in tree[2]]
            data = f"{tree[1]}{gap}({(',' + gap).join(parts)}{gap})"
        return gap + data + gap

    def test_reading_what_was_written(self):
        source = drawn(71)
        for _ in range(3000):
            tree = self.drawn_tree(source, source.randint(1, 6))
            written = write_formula(tree)
            self.assertNotIn(32, [byte for at, byte in enumerate(written) if written[:at].count(34) % 2 == 0])
            self.assertEqual(read_formula(written), tree)
            self.assertEqual(tree_of(self.loose(source, tree)), tree)

    def test_each_pair_of_parentheses_is_needed(self):
        source = drawn(72)
        for _ in range(500):
            tree = self.drawn_tree(source, source.randint(2, 5))
            written = bytes(write_formula(tree)).decode("latin-1")
            for at, sign in enumerate(written):
                called = at > 0 and written[at - 1].isalpha()
                if sign != "(" or called or '"' in written:
                    continue
                end, deep = at, 0
                while deep or end == at:
                    deep += {"(": 1, ")": -1}.get(written[end], 0)
                    end += 1
                less = written[:at] + written[at + 1:end - 1] + written[end:]
                self.assertNotEqual(tree_of(less), tree)

    def test_copies(self):
        tree = tree_of("SUM(A1:B2,1+2,-3)")
        check_copies(self, write_formula, tree)
        check_copies(self, read_formula, list(b"SUM(A1:B2,1+2,-3)"))
        check_copies(self, used_places, tree)
        check_copies(self, count_trees, tree)


class Used(unittest.TestCase):
    def check(self, data, *places):
        self.assertEqual(used_places(tree_of(data)), list(places))

    def test_places(self):
        self.check("1")
        self.check('"A1"')
        self.check("A1", (0, 0))
        self.check("B2+A1*P32", (1, 1), (0, 0), (15, 31))
        self.check("A1+B2+A1", (0, 0), (1, 1))
        self.check("-IF(B1,C1,A1)<D1", (1, 0), (2, 0), (0, 0), (3, 0))
        self.check("(A1+B1)*(C1-D1)", (0, 0), (1, 0), (2, 0), (3, 0))

    def test_ranges(self):
        square = ((0, 0), (1, 0), (0, 1), (1, 1))
        for data in ("A1:B2", "B2:A1", "A2:B1", "B1:A2"):
            self.check(f"SUM({data})", *square)
        self.check("SUM(B2,A1:B2)", (1, 1), (0, 0), (1, 0), (0, 1))
        self.check("SUM(A1:A2,A1:B1)", (0, 0), (0, 1), (1, 0))
        self.check("SUM(C3:C3)", (2, 2))
        self.assertEqual(len(used_places(tree_of("SUM(P32:A1)"))), 512)

    def test_a_changed_list_changes_nothing(self):
        tree = tree_of("SUM(A1:B2)")
        used_places(tree).clear()
        self.assertEqual(len(used_places(tree)), 4)


class Counts(unittest.TestCase):
    def test_counts(self):
        for data, count in (("1", 1), ("A1", 1), ('"a"', 1), ("-1", 2), ("--1", 3), ("1+2", 3), ("1+2+3", 5),
                            ("(1)", 1), ("SUM(1)", 2), ("SUM(A1:P32)", 2), ("SUM(A1:B2,1,2+3)", 6), ("IF(1,2,3)", 4),
                            ('LINK("a")', 2), ("-(1<2)", 4)):
            self.assertEqual(count_trees(tree_of(data)), count, data)


if __name__ == "__main__":
    unittest.main()
