import unittest

from stillroom.measure import budget, spend


class Budget(unittest.TestCase):
    def test_budget(self):
        self.assertEqual(budget(0), 4000)
        self.assertEqual(budget(1), 4020)
        self.assertEqual(budget(1000000), 20004000)


class Spend(unittest.TestCase):
    def check(self, left, cost, expected):
        found = spend(left, cost)
        self.assertEqual(found, expected)
        self.assertIs(found[1], expected[1])

    def test_less_than_there_is(self):
        self.check(10, 3, (7, True))

    def test_exactly_what_is_left(self):
        self.check(10, 10, (0, True))

    def test_one_too_many(self):
        self.check(10, 11, (0, False))

    def test_a_cost_of_nothing(self):
        self.check(10, 0, (10, True))
        self.check(0, 0, (0, True))

    def test_negative_costs(self):
        self.check(10, -1, (10, True))
        self.check(0, -5, (0, True))

    def test_nothing_left(self):
        self.check(0, 1, (0, False))


if __name__ == "__main__":
    unittest.main()
