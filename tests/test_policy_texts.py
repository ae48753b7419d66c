import unittest

from stillroom.digits import write_word
from stillroom.errors import Malformed, TooMuch
from stillroom.policies import is_policy, read_policy, write_policy
from stillroom.signs import KINDS
from support import check_copies, drawn
from told import ACT_KINDS, GREATEST, SIGNS, VERDICTS, drawn_policy

FOLIO = (False, ("is", "folio"))


class Writing(unittest.TestCase):
    def check(self, policy, text):
        self.assertEqual(write_policy(policy), text)
        self.assertEqual(read_policy(text), policy)

    def test_no_rules(self):
        self.check((), "")

    def test_rules(self):
        for verdict in VERDICTS:
            self.check(((verdict, ()),), f"{verdict}\n")
        self.check((("drop", ()), ("clean", (FOLIO,)), ("hold", ()), ("drop", ())),
                   "drop\nclean if is folio\nhold\ndrop\n")

    def test_terms(self):
        self.check((("drop", (FOLIO, (True, ("act", "open")), (True, ("could", "crate")))),),
                   "drop if is folio and not act open and not could crate\n")
        self.check((("drop", ((True, ("is", "folio")),)),), "drop if not is folio\n")

    def body(self, body, text):
        self.check((("drop", ((False, body),)),), f"drop if {text}\n")
        self.check((("drop", ((True, body),)),), f"drop if not {text}\n")

    def test_numbers(self):
        for word, most in GREATEST.items():
            for sign in SIGNS:
                for number in (0, 1, 10, most):
                    self.body((word, sign, number), f"{word} {sign} {number}")

    def test_kinds(self):
        for kind in KINDS:
            self.body(("is", kind), f"is {kind}")
            self.body(("could", kind), f"could {kind}")
        self.body(("is", ""), "is none")
        for kind in ACT_KINDS:
            self.body(("act", kind), f"act {kind}")

    def test_patterns(self):
        self.body(("name", ()), 'name ""')
        self.body(("name", (97, 42, 46)), 'name "a*."')
        self.body(("name", (32, 34, 37, 92, 10, 0, 255, 127)), 'name "\\20\\22\\25\\5c\\0a\\00\\ff\\7f"')
        self.body(("name", (42,) * 20), f'name "{"*" * 20}"')
        self.body(("name", (32,) * 20), 'name "' + "\\20" * 20 + '"')
        self.body(("name", tuple(b"and")), 'name "and"')
        self.body(("name", tuple(b"#")), 'name "#"')

    def test_no_policies(self):
        for value in (None, 5, [], "drop", (("drop",),), (("keep", ()),), (("drop", ()),) * 5,
                      (("drop", (FOLIO,) * 4),), (("drop", ((0, ("is", "folio")),)),),
                      (("drop", ((False, ("size", "<", -1)),)),)):
            with self.assertRaises(Malformed):
                write_policy(value)

    def test_drawn_policies(self):
        source = drawn(83)
        for _ in range(1000):
            policy = drawn_policy(source)
            text = write_policy(policy)
            self.assertRegex(text, r"\A[ -~\n]*\Z")
            self.assertNotIn("%", text)
            self.assertEqual(read_policy(text), policy)
            # The text is the same with more spaces, empty lines and remarks.
            loose = ""
            for line in text.splitlines():
                words = line.split(" ")
                loose += source.choice(("", "\n", "  \n", "# drop if\n", " #\n", "#drop\n"))
                loose += source.choice(("",
                                        "  ")) + source.choice((" ",
                                                                "   ")).join(words) + source.choice(("", " ")) + "\n"
            self.assertEqual(read_policy(loose), policy)
            self.assertEqual(read_policy(loose[:-1]), policy)

    def test_copies(self):
        check_copies(self, write_policy, (("drop", (FOLIO,)),))
        check_copies(self, read_policy, "drop if is folio\n")


class Reading(unittest.TestCase):
    def check(self, text, *rules):
        self.assertEqual(read_policy(text), rules)
        self.assertTrue(is_policy(rules))

    def check_malformed(self, *texts):
        for text in texts:
            with self.assertRaises(Malformed, msg=text):
                read_policy(text)

    def check_too_much(self, *texts):
        for text in texts:
            with self.assertRaises(TooMuch, msg=text):
                read_policy(text)


class Lines(Reading):
    def test_spaces(self):
        rule = ("drop", (FOLIO, (True, ("size", "<", 10))))
        for text in ("drop if is folio and not size < 10", " drop if is folio and not size < 10",
                     "drop if is folio and not size < 10   ", "drop  if   is    folio and   not size  <  10",
                     "   drop if is folio  and not size < 10  \n"):
            self.check(text, rule)

    def test_empty_lines(self):
        drop, clean = ("drop", ()), ("clean", ())
        self.check("")
        self.check("\n\n")
        self.check("   ")
        self.check(" \n  \n")
        self.check("\n\ndrop\n \nclean\n\n", drop, clean)

    def test_the_last_line(self):
        self.check("drop", ("drop", ()))
        self.check("drop\nclean", ("drop", ()), ("clean", ()))
        self.check("drop\nclean\n", ("drop", ()), ("clean", ()))

    def test_remarks(self):
        self.check("#")
        self.check("# drop\n#drop\n   # drop\n##\n#!\n")
        self.check("# first\ndrop\n # second\nclean\n#", ("drop", ()), ("clean", ()))
        # A remark is a line of its own.
        self.check_malformed("drop # all", "drop if is folio # folios", "drop#")

    def test_remarks_and_empty_lines_are_no_rules(self):
        self.check("#\n" * 9 + "drop\n" * 4 + "\n" * 9 + "# x\n" * 9, *[("drop", ())] * 4)


class Words(Reading):
    line = "drop if is folio and not size < 10 and name \"a*\""

    def test_each_word_left_out(self):
        words = self.line.split()
        for at in range(len(words)):
            less = " ".join(words[:at] + words[at + 1:])
            if words[at] == "not":
                self.check(less, ("drop", (FOLIO, (False, ("size", "<", 10)), (False, ("name", (97, 42))))))
            else:
                self.check_malformed(less)

    def test_each_word_doubled(self):
        words = self.line.split()
        for at in range(len(words)):
            self.check_malformed(" ".join(words[:at] + [words[at]] + words[at:]))

    def test_each_word_exchanged(self):
        words = self.line.split()
        rule = read_policy(self.line)
        others = ("drop", "hold", "if", "and", "not", "is", "could", "folio", "crate", "none", "size", "depth", "act",
                  "link", "<", ">=", "10", "11", "name", '"a"', "or", "If", "x", "-", '"')
        found = 0
        for at in range(len(words)):
            for other in others:
                text = " ".join(words[:at] + [other] + words[at + 1:])
                try:
                    policy = read_policy(text)
                except Malformed:
                    continue
                # Whatever is read is written as it was.
                self.assertEqual(write_policy(policy), text + "\n")
                self.assertEqual(policy == rule, other == words[at])
                found += 1
        # hold; could and crate and none; depth, >=, 11, "a", and each word by itself.
        self.assertEqual(found, len(words) - 1 + 1 + 1 + 2 + 1 + 1 + 1 + 1)

    def test_broken_off(self):
        words = self.line.split()
        right = [1, 4, 9, 12]
        for count in range(1, len(words)):
            if count in right:
                read_policy(" ".join(words[:count]))
            else:
                self.check_malformed(" ".join(words[:count]))

    def test_verdicts(self):
        self.check_malformed("Drop", "DROP", "keep", "if is folio", "is folio", "drops", '"drop"', "not", "and", "none",
                             "dropif", "-")

    def test_words_between(self):
        self.check_malformed("drop is folio", "drop and is folio", "drop if", "drop if if is folio",
                             "drop if is folio is crate", "drop if is folio if is crate", "drop if is folio and",
                             "drop if is folio and and is crate", "drop if and is folio", "drop If is folio",
                             "drop if is folio or is crate", "drop drop", "drop clean", "drop if is folio drop",
                             "drop if is folio, is crate", "drop if is folio &")

    def test_not(self):
        self.check("drop if not is folio", ("drop", ((True, ("is", "folio")),)))
        self.check_malformed("drop if not", "drop if not not is folio", "drop not if is folio", "drop if is not folio",
                             "drop if is folio not", "drop if not and is folio", "drop if Not is folio", "not drop")

    def test_kinds(self):
        self.check("drop if is none", ("drop", ((False, ("is", "")),)))
        self.check_malformed("drop if is", "drop if could", "drop if act", "drop if is Folio", "drop if is open",
                             "drop if act folio", 'drop if is ""', 'drop if is "folio"', "drop if could none",
                             "drop if act none", 'drop if could ""', "drop if is folios", "drop if is folio crate",
                             "drop if are folio", "drop if kind folio")

    def test_signs(self):
        for sign in ("==", "<>", "!=", "=>", "=<", "<<", "is", "", "\"<\""):
            self.check_malformed(f"drop if size {sign} 10")
        self.check_malformed("drop if size<10", "drop if size <10", "drop if size< 10", "drop if 10 > size",
                             "drop if size < size")

    def test_numbers(self):
        for word, most in GREATEST.items():
            for number in (0, 1, most):
                self.check(f"drop if {word} < {number}", ("drop", ((False, (word, "<", number)),)))
            for number in (most + 1, -1, "-0", "+1", "01", "00", "1.0", "1e1", "0x1", "", "x", '"1"', 10 ** 17,
                           10 ** 18, 10 ** 30, "1,0"):
                self.check_malformed(f"drop if {word} < {number}")

    def test_patterns(self):
        for pattern in ((), (97,), (42,) * 20, (32,) * 20, tuple(range(20)), tuple(range(236, 256))):
            self.check(f"drop if name {write_word(list(pattern))}", ("drop", ((False, ("name", pattern)),)))
        for word in ("a", '"', '"a', 'a"', "'a'", '"a"b"', '"\\a"', '"\\2"', '"\\61"', '"\\0A"', '"\\GG"', '"a b"',
                     '"\\\\"', '""""', '"a""b"', '"a"x', "\\20"):
            self.check_malformed(f"drop if name {word}")

    def test_patterns_that_are_too_long(self):
        for count in (21, 22, 100):
            self.check_malformed(f'drop if name "{"a" * count}"', 'drop if name "' + "\\20" * count + '"')

    def test_other_words(self):
        self.check_malformed("drop if foo folio", "drop if foo < 10", "drop if", "drop if size", "drop if size <",
                             "drop if name", "drop if depth 1", "drop if pages >", "drop if SIZE < 10")


class Counts(Reading):
    def terms(self, count, term="is folio"):
        return "drop if " + " and ".join([term] * count)

    def test_three_and_four_terms(self):
        for count in (1, 2, 3):
            self.check(self.terms(count), ("drop", (FOLIO,) * count))
        self.check_too_much(self.terms(4), self.terms(5), self.terms(40), self.terms(4) + "\ndrop")

    def test_too_many_terms_in_a_line_that_is_no_rule(self):
        for count in (1, 3, 4, 9):
            self.check_malformed(self.terms(count) + " and", self.terms(count) + " is", self.terms(count) + " and is",
                                 self.terms(count) + " and is x", "x" + self.terms(count), self.terms(count, "is x"))

    def test_four_and_five_rules(self):
        for count in (3, 4):
            self.check("drop\n" * count, *[("drop", ())] * count)
        self.check_too_much("drop\n" * 5, "drop\n" * 4 + "# x\n\nclean if is folio", "drop\n" * 9)

    def test_lines_that_are_no_rules_before_and_behind(self):
        # Whichever line comes first decides.
        self.check_malformed("x\n" + self.terms(4), "x\n" + "drop\n" * 5, "drop\n" * 4 + "x\n",
                             "drop\n" * 4 + "x\ndrop\n")
        self.check_too_much(self.terms(4) + "\nx", "drop\n" * 5 + "x", "drop\n" * 4 + self.terms(4) + "\nx")
        self.check_too_much("drop\n" + self.terms(4) + "\n" + "drop\n" * 4)
        # A 5th line that is no rule, and one with too many terms that is none.
        self.check_malformed("drop\n" * 4 + self.terms(4) + " x", "drop\n" * 4 + "drop if is folio and size < 101x")
        self.check_malformed("drop\n" * 4 + "drop if depth < 101\n" + "drop\n")


if __name__ == "__main__":
    unittest.main()
