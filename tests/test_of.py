import itertools
import unittest

from exactlutes.intervals import is_interval, of
from support import GREATEST, LEAST, check_answer, interval_of_powers, ratio


class Of(unittest.TestCase):
    def check_all(self, pairs):
        for five, expected in pairs:
            with self.subTest(five=five):
                check_answer(self, of(*five), expected)

    def check_none(self, fives):
        self.check_all([(five, [0]) for five in fives])

    def check_itself(self, fives):
        self.check_all([(five, [1] + five) for five in fives])

    def test_in_lowest_terms_already(self):
        self.check_itself([
            [1, 0, 0, 0, 1],
            [-1, 1, 0, 0, 1],
            [7, 0, 0, 0, 12],
            [0, 0, 1, 0, 4],
            [-4, 4, -1, 0, 1],
            [6, -2, 0, -1, 1],
            [6, 10, 15, 0, 12],
            [6, 10, 15, 30, 24],
            [2, 2, 2, 3, 2],
        ])

    def test_not_in_lowest_terms(self):
        self.check_all([
            ([2, 0, 0, 0, 2], [1, 1, 0, 0, 0, 1]),
            ([6, 0, 0, 0, 12], [1, 1, 0, 0, 0, 2]),
            ([-2, 2, 0, 0, 2], [1, -1, 1, 0, 0, 1]),
            ([-6, 10, 14, 22, 24], [1, -3, 5, 7, 11, 12]),
            ([0, 0, 0, -9, 12], [1, 0, 0, 0, -3, 4]),
            ([0, -12, 0, 0, 24], [1, 0, -1, 0, 0, 2]),
            ([22, -33, 44, -55, 11], [1, 2, -3, 4, -5, 1]),
            ([36, 60, 90, 0, 72], [1, 6, 10, 15, 0, 12]),
        ])

    def test_into_the_ranges_only_in_lowest_terms(self):
        self.check_all([
            ([198, 0, 0, 0, 2], [1, 99, 0, 0, 0, 1]),
            ([0, -198, 0, 0, 2], [1, 0, -99, 0, 0, 1]),
            ([0, 0, 9900, 0, 100], [1, 0, 0, 99, 0, 1]),
            ([0, 0, 0, -297, 69], [1, 0, 0, 0, -99, 23]),
            ([700, 0, 0, 0, 1200], [1, 7, 0, 0, 0, 12]),
            ([50, 0, 0, 0, 1200], [1, 1, 0, 0, 0, 24]),
            ([2, 0, 0, 0, 48], [1, 1, 0, 0, 0, 24]),
            ([26, 52, 78, -104, 26], [1, 1, 2, 3, -4, 1]),
        ])

    def test_not_in_the_ranges_even_in_lowest_terms(self):
        for place in range(4):
            for power, d in ((100, 1), (-100, 1), (200, 2), (-200, 2), (101, 24), (-101, 24), (1, 25), (-2, 50)):
                five = [0, 0, 0, 0, d]
                five[place] = power
                self.check_none([five])
        self.check_none([[1, 0, 0, 0, 26], [26, 52, 78, -103, 26], [25, 0, 0, 1, 25], [198, 1, 0, 0, 2]])

    def test_edges_of_the_ranges(self):
        for place in range(4):
            for power, d in ((99, 1), (-99, 1), (99, 23), (-99, 23), (1, 24), (-1, 24), (95, 24)):
                five = [0, 0, 0, 0, d]
                five[place] = power
                self.check_itself([five])
        self.check_itself([[99, 99, 99, 99, 1], [-99, -99, -99, -99, 1], [99, -99, 99, -98, 24]])

    def test_unison_told_with_any_d(self):
        for d in (1, 2, 3, 12, 24, 25, 26, 100, 1200, GREATEST - 1, GREATEST):
            self.check_all([([0, 0, 0, 0, d], [1, 0, 0, 0, 0, 1])])

    def test_d_below_one(self):
        for d in (0, -1, -2, -12, -24, -25, LEAST + 1, LEAST):
            self.check_none([[0, 0, 0, 0, d], [1, 0, 0, 0, d], [-1, 1, 0, 0, d], [d, d, d, d, d]])

    def test_greatest_and_least_numbers(self):
        self.check_all([
            ([GREATEST] * 5, [1, 1, 1, 1, 1, 1]),
            ([-GREATEST, 0, 0, GREATEST, GREATEST], [1, -1, 0, 0, 1, 1]),
            ([LEAST, 0, 0, 0, 1073741824], [1, -2, 0, 0, 0, 1]),
            ([LEAST, LEAST, LEAST, LEAST, 1073741824], [1, -2, -2, -2, -2, 1]),
            ([LEAST, 1073741824, 0, 0, 1073741824], [1, -2, 1, 0, 0, 1]),
            ([LEAST, 0, 0, 0, 33554432], [1, -64, 0, 0, 0, 1]),
        ])
        self.check_none([
            [LEAST, 0, 0, 0, 16777216],
            [LEAST, LEAST, LEAST, LEAST, GREATEST],
            [LEAST, LEAST, LEAST, LEAST, 1],
            [GREATEST, GREATEST, GREATEST, GREATEST, 1],
            [GREATEST, GREATEST, GREATEST, GREATEST, GREATEST - 1],
            [LEAST, GREATEST, LEAST, GREATEST, 24],
            [1, 0, 0, 0, GREATEST],
            [LEAST] * 5,
            [GREATEST, GREATEST, GREATEST, GREATEST, LEAST],
        ])
        for place in range(4):
            for number in (LEAST, GREATEST):
                five = [1, 1, 1, 1, 1]
                five[place] = number
                self.check_none([five])

    def test_every_ratio_of_a_grid(self):
        powers = (-200, -198, -99, -4, 0, 3, 100, 150)
        for five in itertools.product(powers, (-6, 0, 1, 300), (0, 12), (0, -75), range(1, 52)):
            expected = interval_of_powers(ratio(five))
            if of(*five) != expected:
                self.fail(f"{five} should be answered {expected}")

    def test_one_form_however_it_is_told(self):
        for five in ([7, 0, 0, 0, 12], [-1, 1, 0, 0, 1], [99, -99, 99, -98, 24], [0, 0, 0, 0, 1]):
            for k in (1, 2, 3, 5, 24, 97, 1000003):
                self.check_all([([number * k for number in five], [1] + five)])

    def test_each_ratio_has_one_interval(self):
        forms = {}
        for five in itertools.product((-4, 0, 3), (-6, 0, 2), (0, 12), (0, 5), range(1, 25)):
            forms.setdefault(ratio(five), []).append(list(five))
        for told in forms.values():
            answers = [of(*five) for five in told]
            self.assertEqual(answers, [answers[0]] * len(answers))
            self.assertEqual(answers[0][0], 1)
            self.assertEqual(is_interval(answers[0][1:]), [1])
            self.assertEqual(ratio(answers[0][1:]), ratio(told[0]))
            for five in told:
                self.assertEqual(is_interval(five), [1 if five == answers[0][1:] else 0])

    def test_arguments_by_name(self):
        check_answer(self, of(d=12, e=8, c=6, b=4, a=2), [1, 1, 2, 3, 4, 6])

    def test_what_is_handed_in_stays(self):
        for numbers in ([14, 0, 0, 0, 24], [7, 0, 0, 0, 12], [100, 0, 0, 0, 1], [1, 0, 0, 0, 0]):
            five = list(numbers)
            of(*five)
            self.assertEqual(five, numbers)

    def test_a_second_call_answers_as_the_first(self):
        for five, expected in (
            ([14, 0, 0, 0, 24], [1, 7, 0, 0, 0, 12]),
            ([0, 0, 0, 0, 7], [1, 0, 0, 0, 0, 1]),
            ([100, 0, 0, 0, 1], [0]),
            ([1, 0, 0, 0, 0], [0]),
        ):
            first = of(*five)
            check_answer(self, first, expected)
            # A caller may do with an answer as it likes.
            first.append(5)
            first[0] = 9
            of(1, 2, 3, 4, 5)
            of(1, 2, 3, 4, -5)
            check_answer(self, of(*five), expected)


if __name__ == "__main__":
    unittest.main()
